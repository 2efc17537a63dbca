/- Parts of the proof, one behind the other: QWalk, QDigits, QPub, VFirst, VNew. -/
import Derived.Test.YtcfpmofmjnhonaaGreatDoorM7
import Derived.Test.YtcfpmofmjnhonaaGreatDoorM5
import Derived.Test.YtcfpmofmjnhonaaGreatDoorM3
import Derived.Test.YtcfpmofmjnhonaaGreatDoorM13
/- The program's once: where a chain begins, and the way along it. -/
namespace Go.Proofs.YtcfpmofmjnhonaaGreatDoor
open Go.RowKit

set_option maxRecDepth 100000 in
theorem qFirst_any (seed : ByteArray) (key : Int) (c : Nat) (w : World) (hk : HasK w) (hs : seed.size = 16) :
    Calls Tryz.prog 198 #[.string seed, .int .i64 key, .int .i64 (c : Int)] w fun e w' => e = .returned (.string (seedOf seed key c)) ∧ Below w.heap.size w w' := by
  have HK := Lib.hid hk
  have HS := Lib.hid hs
  clear hk hs
  go_enter Tryz.func198, Tryz.ntmps198
  go_wp2_with fail
  refine (num_any key _).mono ?_
  rintro e w1 ⟨rfl, hb1⟩
  have HB1 := Lib.hid hb1
  clear hb1
  go_wp2_with fail
  refine (num_any (c : Int) _).mono ?_
  rintro e w2 ⟨rfl, hb2⟩
  have HB2 := Lib.hid (HB1.out.trans (hb2.mono HB1.out.size))
  clear hb2
  go_wp2_with fail
  refine (mark_any 115 [seed, txt (num8 key), txt (num8 (c : Int))] (some ⟨w2.heap.size, 0, none⟩) 3 _ (HK.out.below (HB2.out.trans ((alloc_below w2 _).mono HB2.out.size)) HK.out.lt) (by have := HS.out; simp [total, num_size]; omega) (by simp) (strs_new w2 [seed, txt (num8 key), txt (num8 (c : Int))] 9)).mono ?_
  rintro e w3 ⟨rfl, hb3⟩
  have HB3 := Lib.hid ((HB2.out.trans ((alloc_below w2 (.cells #[.string seed, .string (txt (num8 key)), .string (txt (num8 (c : Int)))] 9)).mono HB2.out.size)).trans (hb3.mono (Nat.le_trans HB2.out.size (by simp))))
  clear hb3
  go_wp2
  go_ret
  exact ⟨rfl, HB3.out⟩

set_option maxRecDepth 100000 in
theorem qWalk_any (s : ByteArray) (c : Int) (k tt : Nat) (w : World) (hr : HasK w) (hs : s.size = 16) (hk : k ≤ tt) (ht : tt ≤ 15) :
    Calls Tryz.prog 197 #[.string s, .int .i64 c, .int .i64 (k : Int), .int .i64 (tt : Int)] w fun e w' => e = .returned (.string (alongFrom c (tt - k) k s)) ∧ Below w.heap.size w w' := by
  have HR := Lib.hid hr
  obtain ⟨T, hT⟩ : ∃ T, alongFrom c (tt - k) k s = T := ⟨_, rfl⟩
  rw [hT]
  have HT := Lib.hid hT
  have HS := Lib.hid hs
  clear hr hT hs
  go_enter Tryz.func197, Tryz.ntmps197
  go_wp2
  go_loopw [0, 9] (fun sv i wr => ∃ (j : Nat) (u : ByteArray), j ≤ tt ∧ i = .int .i64 (j : Int) ∧ sv = .string u ∧ Hid (u.size = 16 ∧ alongFrom c (tt - j) j u = T ∧ Below w.heap.size w wr)) (fun _ i _ => tt - (intOf i).toNat)
  case atStart => exact ⟨k, s, hk, rfl, rfl, Lib.hid ⟨HS.out, HT.out, Below.refl _ _⟩⟩
  case round =>
    obtain ⟨j, u, hj, rfl, rfl, HU⟩ := hrel
    by_cases hlt : j < tt
    · go_wp2_with fail
      refine (num_any c _).mono ?_
      rintro e w1 ⟨rfl, hb1⟩
      have HB1 := Lib.hid (HU.out.2.2.trans (hb1.mono HU.out.2.2.size))
      clear hb1
      go_wp2_with fail
      refine (num_any (j : Int) _).mono ?_
      rintro e w2 ⟨rfl, hb2⟩
      have HB2 := Lib.hid (HB1.out.trans (hb2.mono HB1.out.size))
      clear hb2
      go_wp2_with fail
      refine (mark_any 119 [u, txt (num8 c), txt (num8 (j : Int))] (some ⟨w2.heap.size, 0, none⟩) 3 _ (HR.out.below (HB2.out.trans ((alloc_below w2 _).mono HB2.out.size)) HR.out.lt) (by have := HU.out.1; simp [total, num_size]; omega) (by simp) (strs_new w2 [u, txt (num8 c), txt (num8 (j : Int))] 9)).mono ?_
      rintro e w3 ⟨rfl, hb3⟩
      have HB3 := Lib.hid ((HB2.out.trans ((alloc_below w2 (.cells #[.string u, .string (txt (num8 c)), .string (txt (num8 (j : Int)))] 9)).mono HB2.out.size)).trans (hb3.mono (Nat.le_trans HB2.out.size (by simp))))
      have HNX := Lib.hid (show alongFrom c (tt - (j + 1)) (j + 1) (markOf 119 [u, txt (num8 c), txt (num8 (j : Int))]) = T by
        have := HU.out.2.1
        rwa [show tt - j = (tt - (j + 1)) + 1 by omega, alongFrom] at this)
      clear hb3
      go_wp2
      go_roundw
      case rel => exact ⟨j + 1, _, by omega, by go_num, rfl, Lib.hid ⟨markOf_len _ _, HNX.out, HB3.out⟩⟩
      case measure => simp [intOf]; omega
    · obtain rfl : j = tt := by omega
      go_wp2
      go_ret
      have := HU.out.2.1
      rw [Nat.sub_self, alongFrom] at this
      have HB := HU.out.2.2
      subst this
      exact ⟨rfl, HB⟩
end Go.Proofs.YtcfpmofmjnhonaaGreatDoor
/- The program's once: digits, in an array. -/
namespace Go.Proofs.YtcfpmofmjnhonaaGreatDoor
open Go.RowKit

/-- Four bits at a place. -/
theorem and15q (n : Int) : bits BinOp.and IntKind.i64 n 15 = n % 16 := by
  have h15 : (BitVec.ofInt 64 15).toNat = 2 ^ 4 - 1 := by decide
  have key : (BitVec.ofInt 64 n &&& BitVec.ofInt 64 15).toNat = (n % ((2 ^ 64 : Nat) : Int)).toNat % 2 ^ 4 := by
    rw [BitVec.toNat_and, BitVec.toNat_ofInt, h15, Nat.and_two_pow_sub_one_eq_mod]
  show IntKind.i64.wrap ((BitVec.ofInt 64 n &&& BitVec.ofInt 64 15).toNat : Nat) = n % 16
  rw [key, IntKind.wrap_i64]
  omega
theorem qBits_any (n p : Nat) (w : World) (_hn : n ≤ 1000000) (hp : p ≤ 2) :
    Calls Tryz.prog 252 #[.int .i64 (n : Int), .int .i64 (p : Int)] w fun e w' => e = .returned (.int .i64 ((n / 16 ^ p % 16 : Nat) : Int)) ∧ w' = w := by
  have HV := Lib.hid (show bits BinOp.and IntKind.i64 ((n : Int) / 2 ^ (4 * p)) 15 = ((n / 16 ^ p % 16 : Nat) : Int) by
    rw [and15q, show n / 16 ^ p % 16 = n / 2 ^ (4 * p) % 16 by rw [Nat.pow_mul]]
    simp)
  go_enter Tryz.func252, Tryz.ntmps252
  go_wp2
  rw [HV.out]
  go_ret
  exact ⟨rfl, rfl⟩

/-- What the first k of these lack of 15. -/
def lackUpto (l : List UInt8) (k : Nat) : Nat := (((digsOf l).take k).map fun d => 15 - d).sum
theorem lackUpto_all (l : List UInt8) : (((digsOf l)).map fun d => 15 - d).sum = lackOf l := by
  unfold digsOf lackOf
  induction l with
  | nil => rfl
  | cons b l ih =>
    have := b.toNat_lt
    simp only [List.flatMap_cons, List.map_append, List.sum_append, List.map_cons, List.map_nil, List.sum_cons, List.sum_nil, ih]
    omega
theorem digsOf_at (l : List UInt8) (i : Nat) (b : UInt8) (h : l[i]? = some b) : (digsOf l)[2 * i]? = some (b.toNat / 16) ∧ (digsOf l)[2 * i + 1]? = some (b.toNat % 16) := by
  unfold digsOf
  induction l generalizing i with
  | nil => cases h
  | cons c l ih =>
    cases i with
    | zero => obtain rfl : c = b := Option.some.inj h
              simp
    | succ i =>
      obtain ⟨h1, h2⟩ := ih i (by simpa using h)
      simp only [List.flatMap_cons]
      rw [show 2 * (i + 1) = (2 * i) + 2 by omega, show 2 * i + 2 + 1 = (2 * i + 1) + 2 by omega]
      exact ⟨h1, h2⟩
theorem digsOf_nib (l : List UInt8) (k : Nat) (b : UInt8) (h : l[k / 2]? = some b) : (digsOf l)[k]? = some (b.toNat / 16 ^ (1 - k % 2) % 16) := by
  have hb := b.toNat_lt
  obtain ⟨h1, h2⟩ := digsOf_at l (k / 2) b h
  rcases (show k % 2 = 0 ∨ k % 2 = 1 by omega) with e | e
  · rw [e, show k = 2 * (k / 2) by omega, h1]
    congr 1
    simp; omega
  · rw [e, show k = 2 * (k / 2) + 1 by omega, h2]
    congr 1
    simp
theorem lackUpto_succ (l : List UInt8) (k d : Nat) (h : (digsOf l)[k]? = some d) : lackUpto l (k + 1) = lackUpto l k + (15 - d) := by
  unfold lackUpto
  rw [List.take_add_one, h]
  simp
/-- The first k of the digits, noughts behind. -/
def dfill (D : List Nat) (k : Nat) : Nat → Value := fun i => if i < k then .int .i64 ((D.getD i 0 : Nat) : Int) else .int .i64 0
theorem dfill_succ (D : List Nat) (k d : Nat) (h : D[k]? = some d) : upd (dfill D k) k (.int .i64 (d : Int)) = dfill D (k + 1) := by
  funext i
  unfold upd dfill
  by_cases e : i = k
  · subst e
    rw [if_pos rfl, if_pos (by omega), List.getD_eq_getElem?_getD, h]; rfl
  · rw [if_neg e]
    by_cases e2 : i < k
    · rw [if_pos e2, if_pos (by omega)]
    · rw [if_neg e2, if_neg (by omega)]
structure DgRel (N : Nat) (w wr : World) (f : Nat → Value) : Prop where
  below : Below N w wr
  size : wr.heap.size = N + 2
  res : Holds wr N 35 (fun _ => .int .i64 0) 330
  own : Holds wr (N + 1) 35 f 330
theorem DgRel.store {N : Nat} {w wr : World} {f : Nat → Value} (h : DgRel N w wr f) (k : Nat) (x : Value) : DgRel N w (wr.setCell ⟨N + 1, k, none⟩ x) (upd f k x) :=
  ⟨h.below.setCell (by show N ≤ N + 1; omega) _, by simp [World.setCell]; exact h.size, h.res.other (by show N ≠ N + 1; omega) _, h.own.set k _⟩

theorem digits_nib (l : List UInt8) (k : Nat) (b : UInt8) (h : l[k / 2]? = some b) (hk : k < 2 * l.length) : (digitsOf l)[k]? = some (b.toNat / 16 ^ (1 - k % 2) % 16) := by
  unfold digitsOf
  rw [List.getElem?_append_left (by rw [digsOf_length]; exact hk)]
  exact digsOf_nib l k b h
theorem digits_lack (l : List UInt8) (hl : l.length = 16) (k : Nat) (hk : k < 3) : (digitsOf l)[32 + k]? = some (lackOf l / 16 ^ (2 - k) % 16) := by
  have h := lackOf_le l
  unfold digitsOf
  rw [List.getElem?_append_right (by rw [digsOf_length]; omega), digsOf_length, hl]
  rcases (show k = 0 ∨ k = 1 ∨ k = 2 by omega) with rfl | rfl | rfl
  · simp; omega
  · simp
  · simp
theorem lackUpto_32 (l : List UInt8) (hl : l.length = 16) : lackUpto l 32 = lackOf l := by
  unfold lackUpto
  rw [List.take_of_length_le (by rw [digsOf_length]; omega)]
  exact lackUpto_all l

set_option maxRecDepth 100000 in
theorem qDigits_any (s : ByteArray) (w : World) (h16 : s.size = 16) :
    Calls Tryz.prog 229 #[.string s] w fun e w' => e = .returned (.agg (arr 35 fun i => .int .i64 (((digitsOf s.data.toList).getD i 0 : Nat) : Int))) ∧ Below w.heap.size w w' := by
  have H16 := Lib.hid h16
  have hs1 : s.size ≤ 16 := by omega
  have hs2 : 16 ≤ s.size := by omega
  clear h16
  have HLEN := Lib.hid (show s.data.toList.length = s.size from size_len s)
  go_enter Tryz.func229, Tryz.ntmps229
  go_wp2
  go_loopw [4, 8] (fun lk i wr => ∃ (k q : Nat), k ≤ 32 ∧ i = .int .i64 (k : Int) ∧ lk = .int .i64 (q : Int) ∧ q ≤ 15 * k ∧ Hid (q = lackUpto s.data.toList k ∧ DgRel w.heap.size w wr (dfill (digitsOf s.data.toList) k))) (fun _ i _ => 32 - (intOf i).toNat)
  case atStart =>
    refine ⟨0, 0, by omega, rfl, rfl, by omega, Lib.hid ⟨rfl, ⟨((Below.refl _ _).alloc (Nat.le_refl _) _).alloc (by simp) _, by simp, ?_, ?_⟩⟩⟩
    · exact (Holds.new w 35 (fun _ => .int .i64 0) 330).alloc _
    · have hz := Holds.new (w.alloc (.cells (arr 35 (fun _ => .int .i64 0)) 330)) 35 (fun _ => .int .i64 0) 330
      rw [World.size_alloc] at hz
      exact hz.congr fun i hi => by unfold dfill; rw [if_neg (by omega)]
  case round =>
    obtain ⟨k, q, hk, rfl, rfl, hq, HU⟩ := hrel
    by_cases hlt : k < 32
    · obtain ⟨c, hc⟩ : ∃ c, s.data.toList[k / 2]? = some c := ⟨_, List.getElem?_eq_getElem (by have := HLEN.out; omega)⟩
      have hsk : k / 2 < s.size := by omega
      obtain ⟨B, hB⟩ : ∃ B : Nat, c.toNat = B := ⟨_, rfl⟩
      have hB2 : B < 256 := by rw [← hB]; exact c.toNat_lt
      have hbk : s[k / 2].toNat = B := by
        rw [← hB]; congr 1
        rw [List.getElem?_eq_getElem (by have := HLEN.out; omega)] at hc
        exact Option.some.inj hc
      have hw : wrap64 ((s[k / 2].toNat : Nat) : Int) = (B : Int) := by rw [hbk]; simp [wrap64]; omega
      obtain ⟨p, hp⟩ : ∃ p, 1 - k % 2 = p := ⟨_, rfl⟩
      have hp1 : p ≤ 2 := by omega
      have e1 : (1 : Int) - (k : Int) % 2 = (p : Int) := by omega
      obtain ⟨d, hd⟩ : ∃ d, B / 16 ^ p % 16 = d := ⟨_, rfl⟩
      have hd15 : d ≤ 15 := by rw [← hd]; omega
      have HD := Lib.hid (show (digitsOf s.data.toList)[k]? = some d by rw [digits_nib _ k c hc (by have := HLEN.out; omega), hp, hB, hd])
      have HD2 := Lib.hid (show (digsOf s.data.toList)[k]? = some d by rw [digsOf_nib _ k c hc, hp, hB, hd])
      have HCA := Lib.hid (qBits_any B p wr (by omega) hp1)
      rw [hd] at HCA
      clear hc hB hbk hp hd
      have c0 := HU.out.2.own.cell k (by omega)
      have f0 := HU.out.2.own.free k
      go_wp2_with fail
      refine HCA.out.mono ?_
      rintro e w1 ⟨rfl, rfl⟩
      clear hw e1 HCA
      go_wp2
      go_roundw
      case rel =>
        refine ⟨k + 1, q + (15 - d), by omega, by go_num, by go_num, by omega, Lib.hid ⟨?_, ?_⟩⟩
        · rw [lackUpto_succ _ k d HD2.out, ← HU.out.1]
        · rw [← dfill_succ _ k d HD.out]
          exact HU.out.2.store k _
      case measure => simp [intOf]; omega
    · have HK := Lib.hid (show k = 32 by omega)
      have HQ := Lib.hid (show q = lackOf s.data.toList by rw [HU.out.1, HK.out]; exact lackUpto_32 _ (HLEN.out.trans H16.out))
      have HR := Lib.hid (show DgRel w.heap.size w wr (dfill (digitsOf s.data.toList) 32) by have h := HU.out.2; rw [HK.out] at h; exact h)
      have hq2 : q ≤ 480 := by omega
      clear HU hq
      go_wp2
      clear hlt hk HK
      go_loopw [28] (fun i wr => ∃ k : Nat, k ≤ 3 ∧ i = .int .i64 (k : Int) ∧ Hid (DgRel w.heap.size w wr (dfill (digitsOf s.data.toList) (32 + k)))) (fun i _ => 3 - (intOf i).toNat)
      case atStart => exact ⟨0, by omega, rfl, HR⟩
      case round =>
        clear HR
        obtain ⟨i, hk, rfl, HR⟩ := hrel
        by_cases hlt : i < 3
        · obtain ⟨p, hp⟩ : ∃ p, 2 - i = p := ⟨_, rfl⟩
          have hp1 : p ≤ 2 := by omega
          have e1 : (2 : Int) - (i : Int) = (p : Int) := by omega
          obtain ⟨d, hd⟩ : ∃ d, q / 16 ^ p % 16 = d := ⟨_, rfl⟩
          have HD := Lib.hid (show (digitsOf s.data.toList)[32 + i]? = some d by rw [digits_lack _ (HLEN.out.trans H16.out) i hlt, ← HQ.out, hp, hd])
          have HCA := Lib.hid (qBits_any q p wr (by omega) hp1)
          rw [hd] at HCA
          clear hp hd
          have c0 := HR.out.own.cell (32 + i) (by omega)
          have f0 := HR.out.own.free (32 + i)
          go_wp2_with fail
          refine HCA.out.mono ?_
          rintro e w1 ⟨rfl, rfl⟩
          clear e1 HCA
          go_wp2
          go_roundw
          case rel =>
            refine ⟨i + 1, by omega, by go_num, Lib.hid ?_⟩
            rw [show 32 + (i + 1) = 32 + i + 1 by omega, ← dfill_succ _ (32 + i) d HD.out]
            exact HR.out.store (32 + i) _
          case measure => simp [intOf]; omega
        · obtain rfl : i = 3 := by omega
          have HF := Lib.hid (show Holds wr (w.heap.size + 1) 35 (fun i => .int .i64 (((digitsOf s.data.toList).getD i 0 : Nat) : Int)) 330 from HR.out.own.congr fun j hj => by unfold dfill; rw [if_pos (by omega)])
          have hi : (Tryz.prog.info? 330).map (·.size) = some (arr 35 fun i => Value.int .i64 (((digitsOf s.data.toList).getD i 0 : Nat) : Int)).size := by rw [arr_size]; kernel_rfl
          have hz : (arr 35 fun _ => Value.int .i64 0).size = (arr 35 fun i => Value.int .i64 (((digitsOf s.data.toList).getD i 0 : Nat) : Int)).size := by rw [arr_size, arr_size]
          have h1 := arr_one 35 (fun i => Value.int .i64 (((digitsOf s.data.toList).getD i 0 : Nat) : Int)) (fun _ => rfl)
          obtain ⟨z, ez⟩ : ∃ z, z = arr 35 fun i => Value.int .i64 (((digitsOf s.data.toList).getD i 0 : Nat) : Int) := ⟨_, rfl⟩
          have Hown : wr.heap[w.heap.size + 1]? = some (.cells z 330 (0, 0)) := by rw [ez]; exact HF.out
          have Hres : wr.heap[w.heap.size]? = some (.cells (arr 35 fun _ => Value.int .i64 0) 330 (0, 0)) := HR.out.res
          rw [← ez] at hi hz h1
          have EZ := Lib.hid ez
          have HI := Lib.hid hi
          have HZ := Lib.hid hz
          have H1 := Lib.hid h1
          have HO := Lib.hid Hown
          have HE := Lib.hid Hres
          clear ez hi hz h1 Hown Hres hk hlt
          go_wp2_with (first | (refine wpList_load_row rfl 330 (.tmp 3) rfl (w.heap.size + 1) rfl 330 z (0, 0) _ HO.out Tryz.underlying330 rfl HI.out ?_) | (refine wpList_store_row rfl 330 (.tmp 2) (.tmp 39) rfl w.heap.size z rfl rfl 330 _ HE.out HI.out HZ.out H1.out ?_))
          have hp : Holds (wr.setRow w.heap.size z) w.heap.size 35 (fun i => Value.int .i64 (((digitsOf s.data.toList).getD i 0 : Nat) : Int)) 330 := by
            rw [EZ.out]; exact HR.out.res.row _
          have hrun : ∀ tmps : Array Value, tmps.getD 2 undef = .pointer (some ⟨w.heap.size, 0, none⟩) → (results Tryz.f229 tmps).run Tryz.prog (wr.setRow w.heap.size z) = .ok (.agg z) (wr.setRow w.heap.size z) := fun tmps ht =>
            results_cell_row (by rfl) tmps _ w.heap.size 330 z (0, 0) _ ht (by rw [EZ.out] at hp ⊢; exact hp) Tryz.underlying330 rfl HI.out
          exact bodyPost_ret (hrun _ rfl) rfl ⟨by rw [EZ.out], below_setRow HR.out.below (Nat.le_refl _) _⟩
end Go.Proofs.YtcfpmofmjnhonaaGreatDoor
/- The program's once: Public. -/
namespace Go.Proofs.YtcfpmofmjnhonaaGreatDoor
open Go.RowKit

/-- The first k of some texts, empty ones behind. -/
def sfill (L : List ByteArray) (k : Nat) : Nat → Value := fun i => if i < k then .string (L.getD i ⟨#[]⟩) else .string ⟨#[]⟩
theorem sfill_succ (L : List ByteArray) (k : Nat) (x : ByteArray) (h : L[k]? = some x) : upd (sfill L k) k (.string x) = sfill L (k + 1) := by
  funext i
  unfold upd sfill
  by_cases e : i = k
  · subst e
    rw [if_pos rfl, if_pos (by omega), List.getD_eq_getElem?_getD, h]; rfl
  · rw [if_neg e]
    by_cases e2 : i < k
    · rw [if_pos e2, if_pos (by omega)]
    · rw [if_neg e2, if_neg (by omega)]
theorem map_range_at {α : Type} (f : Nat → α) (n k : Nat) (h : k < n) : ((List.range n).map f)[k]? = some (f k) := by
  rw [List.getElem?_map, List.getElem?_range h]; rfl
theorem strs_of_holds {w : World} {b n : Nat} {L : List ByteArray} {t : TypeId} (h : Holds w b n (sfill L n) t) (hn : L.length = n) : Strs w (some ⟨b, 0, none⟩) L := by
  intro i p hp
  have hi : i < L.length := (List.getElem?_eq_some_iff.1 hp).1
  refine ⟨_, rfl, h.lt, ?_⟩
  rw [add_none, Nat.zero_add, h.cell i (by omega)]
  unfold sfill
  rw [if_pos (by omega), List.getD_eq_getElem?_getD, hp]; rfl
theorem oneMark {s : ByteArray} {b : Bool} (h : decide (s.size = 16) = b) : marksOk [s] = b := by
  rw [← h]; unfold marksOk; simp

set_option maxRecDepth 100000 in
theorem qPublic_is (seed : ByteArray) (key : Int) (x : ByteArray) (n : Int) (w : World) (hk : HasK w) (h : publicAns seed key = (x, n)) :
    Calls Tryz.prog 148 #[.string seed, .int .i64 key] w fun e w' => e = .returned (.tuple #[.string x, errOf n]) ∧ Below w.heap.size w w' := by
  have HK := Lib.hid hk
  clear hk
  have HB0 := Lib.hid (alloc_below w (.cells #[.string seed] 9))
  have HS0 := Lib.hid (strs_new w [seed] 9)
  unfold publicAns at h
  by_cases h16 : seed.size = 16
  · rw [if_pos h16] at h
    obtain ⟨hx, rfl⟩ := Prod.mk.inj h
    have HX := Lib.hid hx
    have H16 := Lib.hid h16
    have HM := Lib.hid (oneMark (decide_eq_true h16))
    clear h hx h16
    go_enter Tryz.func148, Tryz.ntmps148
    go_wp2_with fail
    refine (qAre_any [seed] _ 1 _ (by simp) HS0.out).mono ?_
    rintro e w1 ⟨rfl, rfl⟩
    rw [HM.out]
    go_wp2
    go_loopw [13] (fun i wr => ∃ k : Nat, k ≤ 35 ∧ i = .int .i64 (k : Int) ∧ Hid (Below w.heap.size w wr ∧ Holds wr (w.heap.size + 1) 35 (sfill (pubChains seed key 35) k) 309)) (fun i _ => 35 - (intOf i).toNat)
    case atStart =>
      refine ⟨0, by omega, rfl, Lib.hid ⟨HB0.out.trans ((alloc_below _ _).mono (by simp)), ?_⟩⟩
      have hz := Holds.new (w.alloc (.cells (stCells [seed]).toArray 9)) 35 (fun _ => .string ⟨#[]⟩) 309
      rw [World.size_alloc] at hz
      exact hz.congr fun i hi => by unfold sfill; rw [if_neg (by omega)]
    case round =>
      obtain ⟨k, hk, rfl, HU⟩ := hrel
      by_cases hlt : k < 35
      · have HN := Lib.hid HU.out.2.lt
        have HXK := Lib.hid (show (pubChains seed key 35)[k]? = some (alongFrom (k : Int) 15 0 (seedOf seed key k)) from map_range_at _ 35 k hlt)
        go_wp2_with fail
        refine (qFirst_any seed key k _ (HK.out.below HU.out.1 HK.out.lt) H16.out).mono ?_
        rintro e w2 ⟨rfl, hb2⟩
        have HB2 := Lib.hid (HU.out.1.trans (hb2.mono HU.out.1.size))
        have HH2 := Lib.hid (HU.out.2.below hb2 HN.out)
        have HL2 := Lib.hid (Nat.lt_of_lt_of_le HN.out hb2.size)
        clear hb2
        go_wp2_with fail
        refine (qWalk_any (seedOf seed key k) (k : Int) 0 15 _ (HK.out.below HB2.out HK.out.lt) (seedOf_size _ _ _) (by omega) (by omega)).mono ?_
        rintro e w3 ⟨rfl, hb3⟩
        have HB3 := Lib.hid (HB2.out.trans (hb3.mono HB2.out.size))
        have HH3 := Lib.hid (HH2.out.below hb3 HL2.out)
        clear hb3
        have c0 := HH3.out.cell k hlt
        have f0 := HH3.out.free k
        rw [show sfill (pubChains seed key 35) k k = .string ⟨#[]⟩ by unfold sfill; rw [if_neg (by omega)]] at c0
        go_wp2
        go_roundw
        case rel =>
          refine ⟨k + 1, by omega, by go_num, Lib.hid ⟨HB3.out.setCell (by show w.heap.size ≤ w.heap.size + 1; omega) _, ?_⟩⟩
          rw [← sfill_succ _ k _ HXK.out]
          exact HH3.out.set k _
        case measure => simp [intOf]; omega
      · obtain rfl : k = 35 := by omega
        have HLEN := Lib.hid (show (pubChains seed key 35).length = 35 from chains_len _ _)
        have HST := Lib.hid (strs_of_holds HU.out.2 HLEN.out)
        have HTOT := Lib.hid (show total (pubChains seed key 35) ≤ 1073741800 by have := total_leM _ 16 (pub_size seed key 35); rw [HLEN.out] at this; omega)
        have HKW := Lib.hid (HK.out.below HU.out.1 HK.out.lt)
        have HMA := Lib.hid (mark_any 112 (pubChains seed key 35) (some ⟨w.heap.size + 1, 0, none⟩) 35 wr HKW.out HTOT.out (by rw [HLEN.out]; omega) HST.out)
        rw [HLEN.out] at HMA
        clear hlt hk
        go_wp2_with fail
        refine HMA.out.mono ?_
        rintro e w7 ⟨rfl, hb7⟩
        have HB7 := Lib.hid (HU.out.1.trans (hb7.mono HU.out.1.size))
        clear hb7 HMA
        go_wp2
        refine bodyPost_ret (results_tmp2 rfl _ _ _) rfl ?_
        exact ⟨by rw [← HX.out]; rfl, HB7.out⟩
  · rw [if_neg h16] at h
    obtain ⟨rfl, rfl⟩ := Prod.mk.inj h
    have HM := Lib.hid (oneMark (decide_eq_false h16))
    clear h h16
    go_enter Tryz.func148, Tryz.ntmps148
    go_wp2_with fail
    refine (qAre_any [seed] _ 1 _ (by simp) HS0.out).mono ?_
    rintro e w1 ⟨rfl, rfl⟩
    rw [HM.out]
    go_wp2
    refine bodyPost_ret (results_tmp2 rfl _ _ _) rfl ?_
    exact ⟨rfl, HB0.out⟩
end Go.Proofs.YtcfpmofmjnhonaaGreatDoor
/- The program's firstRow. -/
namespace Go.Proofs.YtcfpmofmjnhonaaGreatDoor
open Go.RowKit

theorem make8 (w : World) : (Instr.makeSlice 50 (.int .i64 8) (.int .i64 8)).run Tryz.prog w = .ok (.slice (some ⟨w.heap.size, 0, none⟩) 8 8) (w.alloc (.cells (arr 8 fun _ => .string ⟨#[]⟩) 9)) := by kernel_rfl
set_option maxRecDepth 100000 in
theorem vFirst_t (seed : ByteArray) (w : World) (hk : HasK w) (h16 : seed.size = 16) :
    Calls Tryz.prog 100 #[.string seed] w fun e w' => ∃ g, e = .returned (.tuple #[.slice (some ⟨g, 0, none⟩) 8 8, .nilIface]) ∧ w.heap.size ≤ g ∧ g < w'.heap.size ∧ Below w.heap.size w w' ∧ Strs w' (some ⟨g, 0, none⟩) (lvl seed 0) := by
  have HK := Lib.hid hk
  have HE0 := Lib.hid (show errOf 0 = Value.nilIface from rfl)
  have HPA := Lib.hid (show ∀ k : Int, publicAns seed k = (publicOf seed k, 0) from fun k => by unfold publicAns; rw [if_pos h16])
  clear hk h16
  have hmk := make8
  have HB0 := Lib.hid (alloc_below w (.cells (arr 8 fun _ => .string ⟨#[]⟩) 9))
  have HH0 := Lib.hid (Holds.new w 8 (fun _ => .string ⟨#[]⟩) 9)
  go_enter Tryz.func100, Tryz.ntmps100
  go_wp2
  clear hmk
  go_loopw [9] (fun i wr => ∃ k : Nat, k ≤ 8 ∧ i = .int .i64 (k : Int) ∧ Hid (Below w.heap.size w wr ∧ Holds wr w.heap.size 8 (sfill (rows0 seed 8) k) 9)) (fun i _ => 8 - (intOf i).toNat)
  case atStart => exact ⟨0, by omega, rfl, Lib.hid ⟨HB0.out, HH0.out.congr fun i hi => by unfold sfill; rw [if_neg (by omega)]⟩⟩
  case round =>
    obtain ⟨k, hk, rfl, HU⟩ := hrel
    by_cases hlt : k < 8
    · have HN := Lib.hid HU.out.2.lt
      have HXK := Lib.hid (show (rows0 seed 8)[k]? = some (sLeaf (k : Int) (publicOf seed (k : Int))) from map_range_at _ 8 k hlt)
      have HPS := Lib.hid (show (publicOf seed (k : Int)).size = 16 from markOf_len _ _)
      go_wp2_with fail
      refine (qPublic_is seed (k : Int) _ _ _ (HK.out.below HU.out.1 HK.out.lt) (HPA.out (k : Int))).mono ?_
      rintro e w2 ⟨rfl, hb2⟩
      rw [HE0.out]
      generalize publicOf seed (k : Int) = p at HXK HPS
      have HB2 := Lib.hid (HU.out.1.trans (hb2.mono HU.out.1.size))
      have HH2 := Lib.hid (HU.out.2.below hb2 HN.out)
      have HL2 := Lib.hid (Nat.lt_of_lt_of_le HN.out hb2.size)
      clear hb2
      go_wp2_with fail
      refine (vLeaf_any (k : Int) p _ (HK.out.below HB2.out HK.out.lt) HPS.out).mono ?_
      rintro e w3 ⟨rfl, hb3⟩
      have HB3 := Lib.hid (HB2.out.trans (hb3.mono HB2.out.size))
      have HH3 := Lib.hid (HH2.out.below hb3 HL2.out)
      clear hb3
      have c0 := HH3.out.cell k hlt
      have f0 := HH3.out.free k
      rw [show sfill (rows0 seed 8) k k = .string ⟨#[]⟩ by unfold sfill; rw [if_neg (by omega)]] at c0
      go_wp2
      go_roundw
      case rel =>
        refine ⟨k + 1, by omega, by go_num, Lib.hid ⟨HB3.out.setCell (by show w.heap.size ≤ w.heap.size; omega) _, ?_⟩⟩
        rw [← sfill_succ _ k _ HXK.out]
        exact HH3.out.set k _
      case measure => simp [intOf]; omega
    · obtain rfl : k = 8 := by omega
      have HST := Lib.hid (strs_of_holds HU.out.2 (rows0_length seed 8))
      have HLT := Lib.hid HU.out.2.lt
      have HBF := Lib.hid HU.out.1
      clear hlt hk
      go_wp2
      refine bodyPost_ret (results_tmp2 rfl _ _ _) rfl ?_
      exact ⟨w.heap.size, rfl, Nat.le_refl _, HLT.out, HBF.out, HST.out⟩
end Go.Proofs.YtcfpmofmjnhonaaGreatDoor
/- The program's boxes: how they lie, and New. -/
namespace Go.Proofs.YtcfpmofmjnhonaaGreatDoor
open Go.RowKit

theorem infoSl : (Tryz.prog.info? 50).map (fun i => (i.zero, i.size, i.bytes)) = some (some (.slice none 0 0), 1, 24) := by kernel_rfl
def vbF (seed : ByteArray) (v : Value) (p : ByteArray) : Nat → Value := fun i => if i = 0 then .string seed else if i = 1 then v else .string p
/-- A row in memory, of blocks from B on. -/
def RowAt (B : Nat) (w : World) (bb : Nat) (v : Value) (seed : ByteArray) (t : Nat) (u : Value) : Prop :=
  ∃ g c, u = .slice (some ⟨g, 0, none⟩) (rowLen t) c ∧ rowLen t ≤ c ∧ g < w.heap.size ∧ g ≠ bb ∧ v.ownBlock ≠ some g ∧ Strs w (some ⟨g, 0, none⟩) (lvl seed t) ∧ B ≤ g
/-- While a box is made: n rows are in it, the row t is at hand. -/
structure NewAt (w : World) (bb : Nat) (seed : ByteArray) (n t : Nat) (row v : Value) (wr : World) : Prop where
  below : Below w.heap.size w wr
  lb : w.heap.size ≤ bb
  own : Holds wr bb 3 (vbF seed v ⟨#[]⟩) 196
  apart : v.ownBlock ≠ some bb
  cur : RowAt w.heap.size wr bb v seed t row
  rows : ∃ xs, Row wr w.heap.size 1 v n xs ∧ ∀ j u, xs[j]? = some u → RowAt w.heap.size wr bb v seed j u
theorem strs_block {w w' : World} {g : Nat} {L : List ByteArray} (h : Strs w (some ⟨g, 0, none⟩) L) (hb : w'.heap[g]? = w.heap[g]?) (hz : w.heap.size ≤ w'.heap.size) : Strs w' (some ⟨g, 0, none⟩) L := fun i p hp => by
  obtain ⟨a, ha, hl, hc⟩ := h i p hp
  cases ha
  rw [add_none] at hc
  exact ⟨_, rfl, Nat.lt_of_lt_of_le hl hz, by rw [add_none]; exact (World.cell?_of_block (w := w) (a := ⟨g, 0 + i, none⟩) hb).trans hc⟩
theorem RowAt.below {B : Nat} {w w' : World} {bb : Nat} {v : Value} {seed : ByteArray} {t : Nat} {u : Value} (h : RowAt B w bb v seed t u) (hb : Below w.heap.size w w') : RowAt B w' bb v seed t u := by
  obtain ⟨g, c, h1, h2, h3, h4, h5, h6, h7⟩ := h
  exact ⟨g, c, h1, h2, Nat.lt_of_lt_of_le h3 hb.size, h4, h5, h6.below hb, h7⟩
theorem RowAt.next {B : Nat} {w w' : World} {bb : Nat} {v v' : Value} {seed : ByteArray} {t : Nat} {u : Value} (h : RowAt B w bb v seed t u) (hg : w.grownBy w' v.ownBlock) (hm : Moved w v v') : RowAt B (w'.setCell ⟨bb, 1, none⟩ v') bb v' seed t u := by
  obtain ⟨g, c, h1, h2, h3, h4, h5, h6, h7⟩ := h
  have hz : w.heap.size ≤ (w'.setCell ⟨bb, 1, none⟩ v').heap.size := by have := hg.size; simp [World.setCell]; exact this
  refine ⟨g, c, h1, h2, Nat.lt_of_lt_of_le h3 hz, h4, ?_, strs_block h6 ?_ hz, h7⟩
  · rcases hm with e | e
    · rw [e]; exact h5
    · intro e2; have := e g e2; omega
  · rw [Below.heap_setCell _ _ _ _ h4]
    exact hg.block g h3 (fun e => h5 e.symm)
/-- The row at hand is put in. -/
theorem NewAt.put {w wr w4 : World} {bb : Nat} {seed : ByteArray} {n t : Nat} {row v v' : Value} {xs : List Value} (h : NewAt w bb seed n t row v wr) (hnt : t = n)
    (hx : Row wr w.heap.size 1 v n xs) (hxs : ∀ j u, xs[j]? = some u → RowAt w.heap.size wr bb v seed j u)
    (hrow : Row w4 w.heap.size 1 v' (n + 1) (xs ++ [row])) (hg : wr.grownBy w4 v.ownBlock) (hm : Moved wr v v') : NewAt w bb seed (n + 1) t row v' (w4.setCell ⟨bb, 1, none⟩ v') := by
  have hlb := h.lb
  have hbw : bb < wr.heap.size := h.own.lt
  have hap : v'.ownBlock ≠ some bb := by
    rcases hm with e | e
    · rw [e]; exact h.apart
    · intro e2; have := e bb e2; omega
  refine ⟨(h.below.grown hg h.below.size (fun k hk => (hx.lt k hk).1)).setCell (p := ⟨bb, 1, none⟩) (by show w.heap.size ≤ bb; omega) _, hlb, ?_, hap, h.cur.next hg hm, xs ++ [row], hrow.setOther hap _, ?_⟩
  · have h4 : Holds w4 bb 3 (vbF seed v ⟨#[]⟩) 196 := by
      have := h.own
      unfold Holds at this ⊢
      rw [hg.block bb (lt_of_block this) (fun e => h.apart e.symm)]; exact this
    refine (h4.set 1 v').congr fun i hi => ?_
    unfold upd vbF
    rcases (show i = 0 ∨ i = 1 ∨ i = 2 by omega) with rfl | rfl | rfl <;> simp
  · intro j u hj
    have hxl : xs.length = n := by have := hx.1; omega
    by_cases hjn : j < n
    · rw [List.getElem?_append_left (by omega)] at hj
      exact (hxs j u hj).next hg hm
    · rw [List.getElem?_append_right (by omega)] at hj
      have hj0 : j - xs.length = 0 := by have := (List.getElem?_eq_some_iff.1 hj).1; simp at this; omega
      rw [hj0] at hj
      obtain rfl : row = u := by simpa using hj
      obtain rfl : j = t := by omega
      exact h.cur.next hg hm
/-- The row above is at hand. -/
theorem NewAt.up {w wr w' : World} {bb : Nat} {seed : ByteArray} {n t : Nat} {row v : Value} (h : NewAt w bb seed n t row v wr) (hb : Below wr.heap.size wr w') {g c : Nat} (hc : rowLen (t + 1) ≤ c) (hg : wr.heap.size ≤ g) (hgl : g < w'.heap.size) (hs : Strs w' (some ⟨g, 0, none⟩) (lvl seed (t + 1))) :
    NewAt w bb seed n (t + 1) (.slice (some ⟨g, 0, none⟩) (rowLen (t + 1)) c) v w' := by
  obtain ⟨xs, hx, hxs⟩ := h.rows
  have hbw : bb < wr.heap.size := h.own.lt
  exact ⟨h.below.trans (hb.mono h.below.size), h.lb, h.own.below hb h.own.lt, h.apart, ⟨g, c, rfl, hc, hgl, by omega, (fun e => by have := (hx.lt g e).2; omega), hs, Nat.le_trans h.below.size hg⟩, xs, hx.belowAll hb, fun j u hj => (hxs j u hj).below hb⟩

/-- A box of the program's, its blocks all of G. -/
def SealIn (G : Nat → Prop) (w : World) (p : Addr) (seed : ByteArray) : Prop :=
  ∃ bb gr rc, p = ⟨bb, 0, none⟩ ∧ bb < w.heap.size ∧ gr < w.heap.size ∧ w.cell? ⟨bb, 0, none⟩ = some (.string seed) ∧ w.cell? ⟨bb, 1, none⟩ = some (.slice (some ⟨gr, 0, none⟩) 3 rc) ∧ w.cell? ⟨bb, 2, none⟩ = some (.string (boxPub seed)) ∧ G bb ∧ G gr ∧
    ∀ j, j < 3 → ∃ g c, w.cell? ⟨gr, j, none⟩ = some (.slice (some ⟨g, 0, none⟩) (rowLen j) c) ∧ Strs w (some ⟨g, 0, none⟩) (lvl seed j) ∧ G g
/-- A box of the program's. -/
def SealIs (w : World) (p : Addr) (seed : ByteArray) : Prop :=
  ∃ bb gr rc, p = ⟨bb, 0, none⟩ ∧ bb < w.heap.size ∧ gr < w.heap.size ∧ w.cell? ⟨bb, 0, none⟩ = some (.string seed) ∧ w.cell? ⟨bb, 1, none⟩ = some (.slice (some ⟨gr, 0, none⟩) 3 rc) ∧ w.cell? ⟨bb, 2, none⟩ = some (.string (boxPub seed)) ∧
    ∀ j, j < 3 → ∃ g c, w.cell? ⟨gr, j, none⟩ = some (.slice (some ⟨g, 0, none⟩) (rowLen j) c) ∧ Strs w (some ⟨g, 0, none⟩) (lvl seed j)
theorem SealIn.is {G : Nat → Prop} {w : World} {p : Addr} {seed : ByteArray} (h : SealIn G w p seed) : SealIs w p seed := by
  obtain ⟨bb, gr, rc, h1, h2, h3, h4, h5, h6, _, _, h7⟩ := h
  refine ⟨bb, gr, rc, h1, h2, h3, h4, h5, h6, fun j hj => ?_⟩
  obtain ⟨g, c, h8, h9, _⟩ := h7 j hj
  exact ⟨g, c, h8, h9⟩
theorem SealIn.mono {F G : Nat → Prop} {w : World} {p : Addr} {seed : ByteArray} (h : SealIn F w p seed) (hG : ∀ k, F k → k < w.heap.size → G k) : SealIn G w p seed := by
  obtain ⟨bb, gr, rc, h1, h2, h3, h4, h5, h6, g1, g2, h7⟩ := h
  refine ⟨bb, gr, rc, h1, h2, h3, h4, h5, h6, hG _ g1 h2, hG _ g2 h3, fun j hj => ?_⟩
  obtain ⟨g, c, h8, h9, h10⟩ := h7 j hj
  refine ⟨g, c, h8, h9, hG _ h10 ?_⟩
  obtain ⟨a, ha, hl, _⟩ := h9 0 _ (List.getElem?_eq_getElem (by rw [lvl_length seed j (by omega)]; unfold rowLen; rcases (show j = 0 ∨ j = 1 ∨ j = 2 by omega) with rfl | rfl | rfl <;> decide))
  cases ha
  exact hl
theorem SealIn.block {G : Nat → Prop} {w w' : World} {p : Addr} {seed : ByteArray} (h : SealIn G w p seed) (hz : w.heap.size ≤ w'.heap.size) (hb : ∀ k, G k → w'.heap[k]? = w.heap[k]?) : SealIn G w' p seed := by
  obtain ⟨bb, gr, rc, h1, h2, h3, h4, h5, h6, g1, g2, h7⟩ := h
  refine ⟨bb, gr, rc, h1, Nat.lt_of_lt_of_le h2 hz, Nat.lt_of_lt_of_le h3 hz, (World.cell?_of_block (w := w) (a := ⟨bb, 0, none⟩) (hb bb g1)).trans h4, (World.cell?_of_block (w := w) (a := ⟨bb, 1, none⟩) (hb bb g1)).trans h5, (World.cell?_of_block (w := w) (a := ⟨bb, 2, none⟩) (hb bb g1)).trans h6, g1, g2, fun j hj => ?_⟩
  obtain ⟨g, c, h8, h9, h10⟩ := h7 j hj
  exact ⟨g, c, (World.cell?_of_block (w := w) (a := ⟨gr, j, none⟩) (hb gr g2)).trans h8, strs_block h9 (hb g h10) hz, h10⟩
theorem SealIs.below {w w' : World} {p : Addr} {seed : ByteArray} (h : SealIs w p seed) (hb : Below w.heap.size w w') : SealIs w' p seed := by
  obtain ⟨bb, gr, rc, h1, h2, h3, h4, h5, h6, h7⟩ := h
  refine ⟨bb, gr, rc, h1, Nat.lt_of_lt_of_le h2 hb.size, Nat.lt_of_lt_of_le h3 hb.size, (hb.cell (p := ⟨bb, 0, none⟩) h2).trans h4, (hb.cell (p := ⟨bb, 1, none⟩) h2).trans h5, (hb.cell (p := ⟨bb, 2, none⟩) h2).trans h6, fun j hj => ?_⟩
  obtain ⟨g, c, h8, h9⟩ := h7 j hj
  exact ⟨g, c, (hb.cell (p := ⟨gr, j, none⟩) h3).trans h8, h9.below hb⟩
theorem NewAt.done {w wr : World} {bb : Nat} {seed : ByteArray} {row v : Value} (h : NewAt w bb seed 3 3 row v wr) : SealIn (fun k => w.heap.size ≤ k) (wr.setCell ⟨bb, 2, none⟩ (.string (boxPub seed))) ⟨bb, 0, none⟩ seed := by
  obtain ⟨xs, hx, hxs⟩ := h.rows
  have hz : wr.heap.size ≤ (wr.setCell ⟨bb, 2, none⟩ (.string (boxPub seed))).heap.size := by simp [World.setCell]
  have hx2 := hx.setOther (a := ⟨bb, 2, none⟩) h.apart (.string (boxPub seed))
  obtain ⟨gr, rc, rfl, hgb, hgl, _, hc, _⟩ := hx2.shape (by omega)
  have hH : Holds (wr.setCell ⟨bb, 2, none⟩ (.string (boxPub seed))) bb 3 (vbF seed (.slice (some ⟨gr, 0, none⟩) 3 rc) (boxPub seed)) 196 := (h.own.set 2 _).congr fun i hi => by
    unfold upd vbF
    rcases (show i = 0 ∨ i = 1 ∨ i = 2 by omega) with rfl | rfl | rfl <;> simp
  refine ⟨bb, gr, rc, rfl, Nat.lt_of_lt_of_le h.own.lt hz, hgl, hH.cell 0 (by omega), hH.cell 1 (by omega), hH.cell 2 (by omega), h.lb, hgb, fun j hj => ?_⟩
  have hjl : j < xs.length := by have := hx.1; omega
  obtain ⟨g, c, e, _, hg, hne, _, hs, hgw⟩ := hxs j xs[j] (List.getElem?_eq_getElem hjl)
  exact ⟨g, c, (hc j xs[j] (List.getElem?_eq_getElem hjl)).trans (by rw [e]), strs_block hs (Below.heap_setCell _ _ _ _ hne) hz, hgw⟩
end Go.Proofs.YtcfpmofmjnhonaaGreatDoor
