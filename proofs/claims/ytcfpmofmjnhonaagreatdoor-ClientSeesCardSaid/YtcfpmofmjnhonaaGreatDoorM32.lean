/- Parts of the proof, one behind the other: VMarks, QMarks, QWalk, QDigits, QPub. -/
import Derived.Test.YtcfpmofmjnhonaaGreatDoorM13
import Derived.Test.YtcfpmofmjnhonaaGreatDoorM12
import Derived.Test.YtcfpmofmjnhonaaGreatDoorM31
import Derived.Test.YtcfpmofmjnhonaaGreatDoorM9
import Derived.Test.YtcfpmofmjnhonaaGreatDoorM3
/- The program's seal: whether all texts are marks, by slices.ContainsFunc. -/
namespace Go.Proofs.YtcfpmofmjnhonaaGreatDoor
open Go.RowKit

theorem vNoMark_any (s : ByteArray) (w : World) : Calls Tryz.prog 230 #[.string s] w fun e w' => e = .returned (.bool (!decide (s.size = 16))) ∧ w' = w := by
  by_cases h : s.size = 16
  · rw [decide_eq_true h]
    have hi : ((s.size : Int) == 16) = true := by rw [beq_iff_eq]; omega
    have hj : ((s.size : Int) != 16) = false := by simp [bne, hi]
    go_enter Tryz.func230, Tryz.ntmps230
    go_wp2
    go_ret
    exact ⟨rfl, rfl⟩
  · rw [decide_eq_false h]
    have hi : ((s.size : Int) == 16) = false := by rw [beq_eq_false_iff_ne]; omega
    have hj : ((s.size : Int) != 16) = true := by simp [bne, hi]
    go_enter Tryz.func230, Tryz.ntmps230
    go_wp2
    go_ret
    exact ⟨rfl, rfl⟩
set_option maxRecDepth 100000 in
theorem vMarksIx_any (P : List ByteArray) (A : Option Addr) (cap : Nat) (w : World) (hl : P.length ≤ 1000000) (hm : Strs w A P) :
    Calls Tryz.prog 195 #[.slice A P.length cap, .func (.func 230) #[] #[]] w fun e w' => w' = w ∧ ∃ n : Int, e = .returned (.int .i64 n) ∧ ((0 ≤ n ∧ marksOk P = false) ∨ (n = -1 ∧ marksOk P = true)) := by
  have HM := Lib.hid hm
  clear hm
  go_enter Tryz.func195, Tryz.ntmps195
  go_wp2
  go_loopw [8] (fun t wr => ∃ j : Nat, j ≤ P.length ∧ t = .int .i64 (j : Int) ∧ wr = w ∧ marksUpto P j = true) (fun t _ => P.length - (intOf t).toNat)
  case atStart => exact ⟨0, by omega, rfl, rfl, rfl⟩
  case round =>
    obtain ⟨j, hj, rfl, rfl, hall⟩ := hrel
    have HALL := Lib.hid hall
    clear hall
    by_cases hlt : j < P.length
    · obtain ⟨p, hp⟩ : ∃ p, P[j]? = some p := ⟨_, List.getElem?_eq_getElem hlt⟩
      obtain ⟨a, rfl, hal, c0⟩ := HM.out j p hp
      have HP := Lib.hid hp
      clear hp
      go_wp2_with fail
      refine (vNoMark_any p _).mono ?_
      rintro e w1 ⟨rfl, rfl⟩
      by_cases he : p.size = 16
      · rw [decide_eq_true he]
        have HE := Lib.hid he
        clear he
        go_wp2
        go_roundw
        case rel =>
          refine ⟨j + 1, by omega, by go_num, ?_, ?_⟩
          · first | rfl | trivial
          · have := HALL.out
            unfold marksUpto marksOk at this ⊢
            rw [List.take_add_one, HP.out, List.all_append, this]
            simp [HE.out]
        case measure => simp [intOf]; omega
      · rw [decide_eq_false he]
        have HE := Lib.hid he
        clear he
        go_wp2
        go_ret
        exact ⟨rfl, j, rfl, .inl ⟨by omega, marksOk_false HP.out HE.out⟩⟩
    · go_wp2
      go_ret
      exact ⟨rfl, -1, rfl, .inr ⟨rfl, by have h := HALL.out; unfold marksUpto at h; rwa [List.take_of_length_le (by omega)] at h⟩⟩
theorem vMarks_any (P : List ByteArray) (A : Option Addr) (cap : Nat) (w : World) (hl : P.length ≤ 1000000) (hm : Strs w A P) :
    Calls Tryz.prog 143 #[.slice A P.length cap, .func (.func 230) #[] #[]] w fun e w' => e = .returned (.bool (!marksOk P)) ∧ w' = w := by
  go_enter Tryz.func143, Tryz.ntmps143
  go_wp2_with fail
  refine (vMarksIx_any P A cap _ hl hm).mono ?_
  rintro e w1 ⟨rfl, n, rfl, ⟨h0, hf⟩ | ⟨rfl, hf⟩⟩
  · have HF := Lib.hid hf
    clear hf
    go_wp2
    go_ret
    exact ⟨by rw [HF.out]; rfl, rfl⟩
  · have HF := Lib.hid hf
    clear hf
    go_wp2
    go_ret
    exact ⟨by rw [HF.out]; rfl, rfl⟩
theorem vAre_any (P : List ByteArray) (A : Option Addr) (cap : Nat) (w : World) (hl : P.length ≤ 1000000) (hm : Strs w A P) :
    Calls Tryz.prog 187 #[.slice A P.length cap] w fun e w' => e = .returned (.bool (marksOk P)) ∧ w' = w := by
  obtain ⟨M, hM⟩ : ∃ M, marksOk P = M := ⟨_, rfl⟩
  have HM := Lib.hid hM
  rw [hM]
  clear hM
  go_enter Tryz.func187, Tryz.ntmps187
  go_wp2_with fail
  refine (vMarks_any P A cap _ hl hm).mono ?_
  rintro e w1 ⟨rfl, rfl⟩
  rw [HM.out]
  go_wp2
  go_ret
  exact ⟨rfl, rfl⟩
end Go.Proofs.YtcfpmofmjnhonaaGreatDoor
/- The program's once: whether all texts are marks, by slices.ContainsFunc. -/
namespace Go.Proofs.YtcfpmofmjnhonaaGreatDoor
open Go.RowKit

theorem qNoMark_any (s : ByteArray) (w : World) : Calls Tryz.prog 234 #[.string s] w fun e w' => e = .returned (.bool (!decide (s.size = 16))) ∧ w' = w := by
  by_cases h : s.size = 16
  · rw [decide_eq_true h]
    have hi : ((s.size : Int) == 16) = true := by rw [beq_iff_eq]; omega
    have hj : ((s.size : Int) != 16) = false := by simp [bne, hi]
    go_enter Tryz.func234, Tryz.ntmps234
    go_wp2
    go_ret
    exact ⟨rfl, rfl⟩
  · rw [decide_eq_false h]
    have hi : ((s.size : Int) == 16) = false := by rw [beq_eq_false_iff_ne]; omega
    have hj : ((s.size : Int) != 16) = true := by simp [bne, hi]
    go_enter Tryz.func234, Tryz.ntmps234
    go_wp2
    go_ret
    exact ⟨rfl, rfl⟩
set_option maxRecDepth 100000 in
theorem qMarksIx_any (P : List ByteArray) (A : Option Addr) (cap : Nat) (w : World) (hl : P.length ≤ 1000000) (hm : Strs w A P) :
    Calls Tryz.prog 195 #[.slice A P.length cap, .func (.func 234) #[] #[]] w fun e w' => w' = w ∧ ∃ n : Int, e = .returned (.int .i64 n) ∧ ((0 ≤ n ∧ marksOk P = false) ∨ (n = -1 ∧ marksOk P = true)) := by
  have HM := Lib.hid hm
  clear hm
  go_enter Tryz.func195, Tryz.ntmps195
  go_wp2
  go_loopw [8] (fun t wr => ∃ j : Nat, j ≤ P.length ∧ t = .int .i64 (j : Int) ∧ wr = w ∧ marksUpto P j = true) (fun t _ => P.length - (intOf t).toNat)
  case atStart => exact ⟨0, by omega, rfl, rfl, rfl⟩
  case round =>
    obtain ⟨j, hj, rfl, rfl, hall⟩ := hrel
    have HALL := Lib.hid hall
    clear hall
    by_cases hlt : j < P.length
    · obtain ⟨p, hp⟩ : ∃ p, P[j]? = some p := ⟨_, List.getElem?_eq_getElem hlt⟩
      obtain ⟨a, rfl, hal, c0⟩ := HM.out j p hp
      have HP := Lib.hid hp
      clear hp
      go_wp2_with fail
      refine (qNoMark_any p _).mono ?_
      rintro e w1 ⟨rfl, rfl⟩
      by_cases he : p.size = 16
      · rw [decide_eq_true he]
        have HE := Lib.hid he
        clear he
        go_wp2
        go_roundw
        case rel =>
          refine ⟨j + 1, by omega, by go_num, ?_, ?_⟩
          · first | rfl | trivial
          · have := HALL.out
            unfold marksUpto marksOk at this ⊢
            rw [List.take_add_one, HP.out, List.all_append, this]
            simp [HE.out]
        case measure => simp [intOf]; omega
      · rw [decide_eq_false he]
        have HE := Lib.hid he
        clear he
        go_wp2
        go_ret
        exact ⟨rfl, j, rfl, .inl ⟨by omega, marksOk_false HP.out HE.out⟩⟩
    · go_wp2
      go_ret
      exact ⟨rfl, -1, rfl, .inr ⟨rfl, by have h := HALL.out; unfold marksUpto at h; rwa [List.take_of_length_le (by omega)] at h⟩⟩
theorem qMarks_any (P : List ByteArray) (A : Option Addr) (cap : Nat) (w : World) (hl : P.length ≤ 1000000) (hm : Strs w A P) :
    Calls Tryz.prog 143 #[.slice A P.length cap, .func (.func 234) #[] #[]] w fun e w' => e = .returned (.bool (!marksOk P)) ∧ w' = w := by
  go_enter Tryz.func143, Tryz.ntmps143
  go_wp2_with fail
  refine (qMarksIx_any P A cap _ hl hm).mono ?_
  rintro e w1 ⟨rfl, n, rfl, ⟨h0, hf⟩ | ⟨rfl, hf⟩⟩
  · have HF := Lib.hid hf
    clear hf
    go_wp2
    go_ret
    exact ⟨by rw [HF.out]; rfl, rfl⟩
  · have HF := Lib.hid hf
    clear hf
    go_wp2
    go_ret
    exact ⟨by rw [HF.out]; rfl, rfl⟩
theorem qAre_any (P : List ByteArray) (A : Option Addr) (cap : Nat) (w : World) (hl : P.length ≤ 1000000) (hm : Strs w A P) :
    Calls Tryz.prog 196 #[.slice A P.length cap] w fun e w' => e = .returned (.bool (marksOk P)) ∧ w' = w := by
  obtain ⟨M, hM⟩ : ∃ M, marksOk P = M := ⟨_, rfl⟩
  have HM := Lib.hid hM
  rw [hM]
  clear hM
  go_enter Tryz.func196, Tryz.ntmps196
  go_wp2_with fail
  refine (qMarks_any P A cap _ hl hm).mono ?_
  rintro e w1 ⟨rfl, rfl⟩
  rw [HM.out]
  go_wp2
  go_ret
  exact ⟨rfl, rfl⟩
end Go.Proofs.YtcfpmofmjnhonaaGreatDoor
/- The program's once: where a chain begins, and the way along it. -/
namespace Go.Proofs.YtcfpmofmjnhonaaGreatDoor
open Go.RowKit

set_option maxRecDepth 100000 in
theorem qFirst_any (seed : ByteArray) (key : Int) (c : Nat) (w : World) (hk : HasK w) (hs : seed.size = 16) :
    Calls Tryz.prog 198 #[.string seed, .int .i64 key, .int .i64 (c : Int)] w fun e w' => e = .returned (.string (seedOf seed key c)) ∧ Below w.heap.size w w' := by
  have HK := Lib.hid hk
  have HS := Lib.hid hs
  clear hk hs
  go_enter Tryz.func198, Tryz.ntmps198
  go_wp2_with fail
  refine (num_any key _).mono ?_
  rintro e w1 ⟨rfl, hb1⟩
  have HB1 := Lib.hid hb1
  clear hb1
  go_wp2_with fail
  refine (num_any (c : Int) _).mono ?_
  rintro e w2 ⟨rfl, hb2⟩
  have HB2 := Lib.hid (HB1.out.trans (hb2.mono HB1.out.size))
  clear hb2
  go_wp2_with fail
  refine (mark_any 115 [seed, txt (num8 key), txt (num8 (c : Int))] (some ⟨w2.heap.size, 0, none⟩) 3 _ (HK.out.below (HB2.out.trans ((alloc_below w2 _).mono HB2.out.size)) HK.out.lt) (by have := HS.out; simp [total, num_size]; omega) (by simp) (strs_new w2 [seed, txt (num8 key), txt (num8 (c : Int))] 9)).mono ?_
  rintro e w3 ⟨rfl, hb3⟩
  have HB3 := Lib.hid ((HB2.out.trans ((alloc_below w2 (.cells #[.string seed, .string (txt (num8 key)), .string (txt (num8 (c : Int)))] 9)).mono HB2.out.size)).trans (hb3.mono (Nat.le_trans HB2.out.size (by simp))))
  clear hb3
  go_wp2
  go_ret
  exact ⟨rfl, HB3.out⟩

set_option maxRecDepth 100000 in
theorem qWalk_any (s : ByteArray) (c : Int) (k tt : Nat) (w : World) (hr : HasK w) (hs : s.size = 16) (hk : k ≤ tt) (ht : tt ≤ 15) :
    Calls Tryz.prog 197 #[.string s, .int .i64 c, .int .i64 (k : Int), .int .i64 (tt : Int)] w fun e w' => e = .returned (.string (alongFrom c (tt - k) k s)) ∧ Below w.heap.size w w' := by
  have HR := Lib.hid hr
  obtain ⟨T, hT⟩ : ∃ T, alongFrom c (tt - k) k s = T := ⟨_, rfl⟩
  rw [hT]
  have HT := Lib.hid hT
  have HS := Lib.hid hs
  clear hr hT hs
  go_enter Tryz.func197, Tryz.ntmps197
  go_wp2
  go_loopw [0, 9] (fun sv i wr => ∃ (j : Nat) (u : ByteArray), j ≤ tt ∧ i = .int .i64 (j : Int) ∧ sv = .string u ∧ Hid (u.size = 16 ∧ alongFrom c (tt - j) j u = T ∧ Below w.heap.size w wr)) (fun _ i _ => tt - (intOf i).toNat)
  case atStart => exact ⟨k, s, hk, rfl, rfl, Lib.hid ⟨HS.out, HT.out, Below.refl _ _⟩⟩
  case round =>
    obtain ⟨j, u, hj, rfl, rfl, HU⟩ := hrel
    by_cases hlt : j < tt
    · go_wp2_with fail
      refine (num_any c _).mono ?_
      rintro e w1 ⟨rfl, hb1⟩
      have HB1 := Lib.hid (HU.out.2.2.trans (hb1.mono HU.out.2.2.size))
      clear hb1
      go_wp2_with fail
      refine (num_any (j : Int) _).mono ?_
      rintro e w2 ⟨rfl, hb2⟩
      have HB2 := Lib.hid (HB1.out.trans (hb2.mono HB1.out.size))
      clear hb2
      go_wp2_with fail
      refine (mark_any 119 [u, txt (num8 c), txt (num8 (j : Int))] (some ⟨w2.heap.size, 0, none⟩) 3 _ (HR.out.below (HB2.out.trans ((alloc_below w2 _).mono HB2.out.size)) HR.out.lt) (by have := HU.out.1; simp [total, num_size]; omega) (by simp) (strs_new w2 [u, txt (num8 c), txt (num8 (j : Int))] 9)).mono ?_
      rintro e w3 ⟨rfl, hb3⟩
      have HB3 := Lib.hid ((HB2.out.trans ((alloc_below w2 (.cells #[.string u, .string (txt (num8 c)), .string (txt (num8 (j : Int)))] 9)).mono HB2.out.size)).trans (hb3.mono (Nat.le_trans HB2.out.size (by simp))))
      have HNX := Lib.hid (show alongFrom c (tt - (j + 1)) (j + 1) (markOf 119 [u, txt (num8 c), txt (num8 (j : Int))]) = T by
        have := HU.out.2.1
        rwa [show tt - j = (tt - (j + 1)) + 1 by omega, alongFrom] at this)
      clear hb3
      go_wp2
      go_roundw
      case rel => exact ⟨j + 1, _, by omega, by go_num, rfl, Lib.hid ⟨markOf_len _ _, HNX.out, HB3.out⟩⟩
      case measure => simp [intOf]; omega
    · obtain rfl : j = tt := by omega
      go_wp2
      go_ret
      have := HU.out.2.1
      rw [Nat.sub_self, alongFrom] at this
      have HB := HU.out.2.2
      subst this
      exact ⟨rfl, HB⟩
end Go.Proofs.YtcfpmofmjnhonaaGreatDoor
/- The program's once: digits, in an array. -/
namespace Go.Proofs.YtcfpmofmjnhonaaGreatDoor
open Go.RowKit

/-- Four bits at a place. -/
theorem and15q (n : Int) : bits BinOp.and IntKind.i64 n 15 = n % 16 := by
  have h15 : (BitVec.ofInt 64 15).toNat = 2 ^ 4 - 1 := by decide
  have key : (BitVec.ofInt 64 n &&& BitVec.ofInt 64 15).toNat = (n % ((2 ^ 64 : Nat) : Int)).toNat % 2 ^ 4 := by
    rw [BitVec.toNat_and, BitVec.toNat_ofInt, h15, Nat.and_two_pow_sub_one_eq_mod]
  show IntKind.i64.wrap ((BitVec.ofInt 64 n &&& BitVec.ofInt 64 15).toNat : Nat) = n % 16
  rw [key, IntKind.wrap_i64]
  omega
theorem qBits_any (n p : Nat) (w : World) (_hn : n ≤ 1000000) (hp : p ≤ 2) :
    Calls Tryz.prog 252 #[.int .i64 (n : Int), .int .i64 (p : Int)] w fun e w' => e = .returned (.int .i64 ((n / 16 ^ p % 16 : Nat) : Int)) ∧ w' = w := by
  have HV := Lib.hid (show bits BinOp.and IntKind.i64 ((n : Int) / 2 ^ (4 * p)) 15 = ((n / 16 ^ p % 16 : Nat) : Int) by
    rw [and15q, show n / 16 ^ p % 16 = n / 2 ^ (4 * p) % 16 by rw [Nat.pow_mul]]
    simp)
  go_enter Tryz.func252, Tryz.ntmps252
  go_wp2
  rw [HV.out]
  go_ret
  exact ⟨rfl, rfl⟩

/-- What the first k of these lack of 15. -/
def lackUpto (l : List UInt8) (k : Nat) : Nat := (((digsOf l).take k).map fun d => 15 - d).sum
theorem lackUpto_all (l : List UInt8) : (((digsOf l)).map fun d => 15 - d).sum = lackOf l := by
  unfold digsOf lackOf
  induction l with
  | nil => rfl
  | cons b l ih =>
    have := b.toNat_lt
    simp only [List.flatMap_cons, List.map_append, List.sum_append, List.map_cons, List.map_nil, List.sum_cons, List.sum_nil, ih]
    omega
theorem digsOf_at (l : List UInt8) (i : Nat) (b : UInt8) (h : l[i]? = some b) : (digsOf l)[2 * i]? = some (b.toNat / 16) ∧ (digsOf l)[2 * i + 1]? = some (b.toNat % 16) := by
  unfold digsOf
  induction l generalizing i with
  | nil => cases h
  | cons c l ih =>
    cases i with
    | zero => obtain rfl : c = b := Option.some.inj h
              simp
    | succ i =>
      obtain ⟨h1, h2⟩ := ih i (by simpa using h)
      simp only [List.flatMap_cons]
      rw [show 2 * (i + 1) = (2 * i) + 2 by omega, show 2 * i + 2 + 1 = (2 * i + 1) + 2 by omega]
      exact ⟨h1, h2⟩
theorem digsOf_nib (l : List UInt8) (k : Nat) (b : UInt8) (h : l[k / 2]? = some b) : (digsOf l)[k]? = some (b.toNat / 16 ^ (1 - k % 2) % 16) := by
  have hb := b.toNat_lt
  obtain ⟨h1, h2⟩ := digsOf_at l (k / 2) b h
  rcases (show k % 2 = 0 ∨ k % 2 = 1 by omega) with e | e
  · rw [e, show k = 2 * (k / 2) by omega, h1]
    congr 1
    simp; omega
  · rw [e, show k = 2 * (k / 2) + 1 by omega, h2]
    congr 1
    simp
theorem lackUpto_succ (l : List UInt8) (k d : Nat) (h : (digsOf l)[k]? = some d) : lackUpto l (k + 1) = lackUpto l k + (15 - d) := by
  unfold lackUpto
  rw [List.take_add_one, h]
  simp
/-- The first k of the digits, noughts behind. -/
def dfill (D : List Nat) (k : Nat) : Nat → Value := fun i => if i < k then .int .i64 ((D.getD i 0 : Nat) : Int) else .int .i64 0
theorem dfill_succ (D : List Nat) (k d : Nat) (h : D[k]? = some d) : upd (dfill D k) k (.int .i64 (d : Int)) = dfill D (k + 1) := by
  funext i
  unfold upd dfill
  by_cases e : i = k
  · subst e
    rw [if_pos rfl, if_pos (by omega), List.getD_eq_getElem?_getD, h]; rfl
  · rw [if_neg e]
    by_cases e2 : i < k
    · rw [if_pos e2, if_pos (by omega)]
    · rw [if_neg e2, if_neg (by omega)]
structure DgRel (N : Nat) (w wr : World) (f : Nat → Value) : Prop where
  below : Below N w wr
  size : wr.heap.size = N + 2
  res : Holds wr N 35 (fun _ => .int .i64 0) 330
  own : Holds wr (N + 1) 35 f 330
theorem DgRel.store {N : Nat} {w wr : World} {f : Nat → Value} (h : DgRel N w wr f) (k : Nat) (x : Value) : DgRel N w (wr.setCell ⟨N + 1, k, none⟩ x) (upd f k x) :=
  ⟨h.below.setCell (by show N ≤ N + 1; omega) _, by simp [World.setCell]; exact h.size, h.res.other (by show N ≠ N + 1; omega) _, h.own.set k _⟩

theorem digits_nib (l : List UInt8) (k : Nat) (b : UInt8) (h : l[k / 2]? = some b) (hk : k < 2 * l.length) : (digitsOf l)[k]? = some (b.toNat / 16 ^ (1 - k % 2) % 16) := by
  unfold digitsOf
  rw [List.getElem?_append_left (by rw [digsOf_length]; exact hk)]
  exact digsOf_nib l k b h
theorem digits_lack (l : List UInt8) (hl : l.length = 16) (k : Nat) (hk : k < 3) : (digitsOf l)[32 + k]? = some (lackOf l / 16 ^ (2 - k) % 16) := by
  have h := lackOf_le l
  unfold digitsOf
  rw [List.getElem?_append_right (by rw [digsOf_length]; omega), digsOf_length, hl]
  rcases (show k = 0 ∨ k = 1 ∨ k = 2 by omega) with rfl | rfl | rfl
  · simp; omega
  · simp
  · simp
theorem lackUpto_32 (l : List UInt8) (hl : l.length = 16) : lackUpto l 32 = lackOf l := by
  unfold lackUpto
  rw [List.take_of_length_le (by rw [digsOf_length]; omega)]
  exact lackUpto_all l

set_option maxRecDepth 100000 in
theorem qDigits_any (s : ByteArray) (w : World) (h16 : s.size = 16) :
    Calls Tryz.prog 229 #[.string s] w fun e w' => e = .returned (.agg (arr 35 fun i => .int .i64 (((digitsOf s.data.toList).getD i 0 : Nat) : Int))) ∧ Below w.heap.size w w' := by
  have H16 := Lib.hid h16
  have hs1 : s.size ≤ 16 := by omega
  have hs2 : 16 ≤ s.size := by omega
  clear h16
  have HLEN := Lib.hid (show s.data.toList.length = s.size from size_len s)
  go_enter Tryz.func229, Tryz.ntmps229
  go_wp2
  go_loopw [4, 8] (fun lk i wr => ∃ (k q : Nat), k ≤ 32 ∧ i = .int .i64 (k : Int) ∧ lk = .int .i64 (q : Int) ∧ q ≤ 15 * k ∧ Hid (q = lackUpto s.data.toList k ∧ DgRel w.heap.size w wr (dfill (digitsOf s.data.toList) k))) (fun _ i _ => 32 - (intOf i).toNat)
  case atStart =>
    refine ⟨0, 0, by omega, rfl, rfl, by omega, Lib.hid ⟨rfl, ⟨((Below.refl _ _).alloc (Nat.le_refl _) _).alloc (by simp) _, by simp, ?_, ?_⟩⟩⟩
    · exact (Holds.new w 35 (fun _ => .int .i64 0) 330).alloc _
    · have hz := Holds.new (w.alloc (.cells (arr 35 (fun _ => .int .i64 0)) 330)) 35 (fun _ => .int .i64 0) 330
      rw [World.size_alloc] at hz
      exact hz.congr fun i hi => by unfold dfill; rw [if_neg (by omega)]
  case round =>
    obtain ⟨k, q, hk, rfl, rfl, hq, HU⟩ := hrel
    by_cases hlt : k < 32
    · obtain ⟨c, hc⟩ : ∃ c, s.data.toList[k / 2]? = some c := ⟨_, List.getElem?_eq_getElem (by have := HLEN.out; omega)⟩
      have hsk : k / 2 < s.size := by omega
      obtain ⟨B, hB⟩ : ∃ B : Nat, c.toNat = B := ⟨_, rfl⟩
      have hB2 : B < 256 := by rw [← hB]; exact c.toNat_lt
      have hbk : s[k / 2].toNat = B := by
        rw [← hB]; congr 1
        rw [List.getElem?_eq_getElem (by have := HLEN.out; omega)] at hc
        exact Option.some.inj hc
      have hw : wrap64 ((s[k / 2].toNat : Nat) : Int) = (B : Int) := by rw [hbk]; simp [wrap64]; omega
      obtain ⟨p, hp⟩ : ∃ p, 1 - k % 2 = p := ⟨_, rfl⟩
      have hp1 : p ≤ 2 := by omega
      have e1 : (1 : Int) - (k : Int) % 2 = (p : Int) := by omega
      obtain ⟨d, hd⟩ : ∃ d, B / 16 ^ p % 16 = d := ⟨_, rfl⟩
      have hd15 : d ≤ 15 := by rw [← hd]; omega
      have HD := Lib.hid (show (digitsOf s.data.toList)[k]? = some d by rw [digits_nib _ k c hc (by have := HLEN.out; omega), hp, hB, hd])
      have HD2 := Lib.hid (show (digsOf s.data.toList)[k]? = some d by rw [digsOf_nib _ k c hc, hp, hB, hd])
      have HCA := Lib.hid (qBits_any B p wr (by omega) hp1)
      rw [hd] at HCA
      clear hc hB hbk hp hd
      have c0 := HU.out.2.own.cell k (by omega)
      have f0 := HU.out.2.own.free k
      go_wp2_with fail
      refine HCA.out.mono ?_
      rintro e w1 ⟨rfl, rfl⟩
      clear hw e1 HCA
      go_wp2
      go_roundw
      case rel =>
        refine ⟨k + 1, q + (15 - d), by omega, by go_num, by go_num, by omega, Lib.hid ⟨?_, ?_⟩⟩
        · rw [lackUpto_succ _ k d HD2.out, ← HU.out.1]
        · rw [← dfill_succ _ k d HD.out]
          exact HU.out.2.store k _
      case measure => simp [intOf]; omega
    · have HK := Lib.hid (show k = 32 by omega)
      have HQ := Lib.hid (show q = lackOf s.data.toList by rw [HU.out.1, HK.out]; exact lackUpto_32 _ (HLEN.out.trans H16.out))
      have HR := Lib.hid (show DgRel w.heap.size w wr (dfill (digitsOf s.data.toList) 32) by have h := HU.out.2; rw [HK.out] at h; exact h)
      have hq2 : q ≤ 480 := by omega
      clear HU hq
      go_wp2
      clear hlt hk HK
      go_loopw [28] (fun i wr => ∃ k : Nat, k ≤ 3 ∧ i = .int .i64 (k : Int) ∧ Hid (DgRel w.heap.size w wr (dfill (digitsOf s.data.toList) (32 + k)))) (fun i _ => 3 - (intOf i).toNat)
      case atStart => exact ⟨0, by omega, rfl, HR⟩
      case round =>
        clear HR
        obtain ⟨i, hk, rfl, HR⟩ := hrel
        by_cases hlt : i < 3
        · obtain ⟨p, hp⟩ : ∃ p, 2 - i = p := ⟨_, rfl⟩
          have hp1 : p ≤ 2 := by omega
          have e1 : (2 : Int) - (i : Int) = (p : Int) := by omega
          obtain ⟨d, hd⟩ : ∃ d, q / 16 ^ p % 16 = d := ⟨_, rfl⟩
          have HD := Lib.hid (show (digitsOf s.data.toList)[32 + i]? = some d by rw [digits_lack _ (HLEN.out.trans H16.out) i hlt, ← HQ.out, hp, hd])
          have HCA := Lib.hid (qBits_any q p wr (by omega) hp1)
          rw [hd] at HCA
          clear hp hd
          have c0 := HR.out.own.cell (32 + i) (by omega)
          have f0 := HR.out.own.free (32 + i)
          go_wp2_with fail
          refine HCA.out.mono ?_
          rintro e w1 ⟨rfl, rfl⟩
          clear e1 HCA
          go_wp2
          go_roundw
          case rel =>
            refine ⟨i + 1, by omega, by go_num, Lib.hid ?_⟩
            rw [show 32 + (i + 1) = 32 + i + 1 by omega, ← dfill_succ _ (32 + i) d HD.out]
            exact HR.out.store (32 + i) _
          case measure => simp [intOf]; omega
        · obtain rfl : i = 3 := by omega
          have HF := Lib.hid (show Holds wr (w.heap.size + 1) 35 (fun i => .int .i64 (((digitsOf s.data.toList).getD i 0 : Nat) : Int)) 330 from HR.out.own.congr fun j hj => by unfold dfill; rw [if_pos (by omega)])
          have hi : (Tryz.prog.info? 330).map (·.size) = some (arr 35 fun i => Value.int .i64 (((digitsOf s.data.toList).getD i 0 : Nat) : Int)).size := by rw [arr_size]; kernel_rfl
          have hz : (arr 35 fun _ => Value.int .i64 0).size = (arr 35 fun i => Value.int .i64 (((digitsOf s.data.toList).getD i 0 : Nat) : Int)).size := by rw [arr_size, arr_size]
          have h1 := arr_one 35 (fun i => Value.int .i64 (((digitsOf s.data.toList).getD i 0 : Nat) : Int)) (fun _ => rfl)
          obtain ⟨z, ez⟩ : ∃ z, z = arr 35 fun i => Value.int .i64 (((digitsOf s.data.toList).getD i 0 : Nat) : Int) := ⟨_, rfl⟩
          have Hown : wr.heap[w.heap.size + 1]? = some (.cells z 330 (0, 0)) := by rw [ez]; exact HF.out
          have Hres : wr.heap[w.heap.size]? = some (.cells (arr 35 fun _ => Value.int .i64 0) 330 (0, 0)) := HR.out.res
          rw [← ez] at hi hz h1
          have EZ := Lib.hid ez
          have HI := Lib.hid hi
          have HZ := Lib.hid hz
          have H1 := Lib.hid h1
          have HO := Lib.hid Hown
          have HE := Lib.hid Hres
          clear ez hi hz h1 Hown Hres hk hlt
          go_wp2_with (first | (refine wpList_load_row rfl 330 (.tmp 3) rfl (w.heap.size + 1) rfl 330 z (0, 0) _ HO.out Tryz.underlying330 rfl HI.out ?_) | (refine wpList_store_row rfl 330 (.tmp 2) (.tmp 39) rfl w.heap.size z rfl rfl 330 _ HE.out HI.out HZ.out H1.out ?_))
          have hp : Holds (wr.setRow w.heap.size z) w.heap.size 35 (fun i => Value.int .i64 (((digitsOf s.data.toList).getD i 0 : Nat) : Int)) 330 := by
            rw [EZ.out]; exact HR.out.res.row _
          have hrun : ∀ tmps : Array Value, tmps.getD 2 undef = .pointer (some ⟨w.heap.size, 0, none⟩) → (results Tryz.f229 tmps).run Tryz.prog (wr.setRow w.heap.size z) = .ok (.agg z) (wr.setRow w.heap.size z) := fun tmps ht =>
            results_cell_row (by rfl) tmps _ w.heap.size 330 z (0, 0) _ ht (by rw [EZ.out] at hp ⊢; exact hp) Tryz.underlying330 rfl HI.out
          exact bodyPost_ret (hrun _ rfl) rfl ⟨by rw [EZ.out], below_setRow HR.out.below (Nat.le_refl _) _⟩
end Go.Proofs.YtcfpmofmjnhonaaGreatDoor
/- The program's once: Public. -/
namespace Go.Proofs.YtcfpmofmjnhonaaGreatDoor
open Go.RowKit

/-- The first k of some texts, empty ones behind. -/
def sfill (L : List ByteArray) (k : Nat) : Nat → Value := fun i => if i < k then .string (L.getD i ⟨#[]⟩) else .string ⟨#[]⟩
theorem sfill_succ (L : List ByteArray) (k : Nat) (x : ByteArray) (h : L[k]? = some x) : upd (sfill L k) k (.string x) = sfill L (k + 1) := by
  funext i
  unfold upd sfill
  by_cases e : i = k
  · subst e
    rw [if_pos rfl, if_pos (by omega), List.getD_eq_getElem?_getD, h]; rfl
  · rw [if_neg e]
    by_cases e2 : i < k
    · rw [if_pos e2, if_pos (by omega)]
    · rw [if_neg e2, if_neg (by omega)]
theorem map_range_at {α : Type} (f : Nat → α) (n k : Nat) (h : k < n) : ((List.range n).map f)[k]? = some (f k) := by
  rw [List.getElem?_map, List.getElem?_range h]; rfl
theorem strs_of_holds {w : World} {b n : Nat} {L : List ByteArray} {t : TypeId} (h : Holds w b n (sfill L n) t) (hn : L.length = n) : Strs w (some ⟨b, 0, none⟩) L := by
  intro i p hp
  have hi : i < L.length := (List.getElem?_eq_some_iff.1 hp).1
  refine ⟨_, rfl, h.lt, ?_⟩
  rw [add_none, Nat.zero_add, h.cell i (by omega)]
  unfold sfill
  rw [if_pos (by omega), List.getD_eq_getElem?_getD, hp]; rfl
theorem oneMark {s : ByteArray} {b : Bool} (h : decide (s.size = 16) = b) : marksOk [s] = b := by
  rw [← h]; unfold marksOk; simp

set_option maxRecDepth 100000 in
theorem qPublic_is (seed : ByteArray) (key : Int) (x : ByteArray) (n : Int) (w : World) (hk : HasK w) (h : publicAns seed key = (x, n)) :
    Calls Tryz.prog 148 #[.string seed, .int .i64 key] w fun e w' => e = .returned (.tuple #[.string x, errOf n]) ∧ Below w.heap.size w w' := by
  have HK := Lib.hid hk
  clear hk
  have HB0 := Lib.hid (alloc_below w (.cells #[.string seed] 9))
  have HS0 := Lib.hid (strs_new w [seed] 9)
  unfold publicAns at h
  by_cases h16 : seed.size = 16
  · rw [if_pos h16] at h
    obtain ⟨hx, rfl⟩ := Prod.mk.inj h
    have HX := Lib.hid hx
    have H16 := Lib.hid h16
    have HM := Lib.hid (oneMark (decide_eq_true h16))
    clear h hx h16
    go_enter Tryz.func148, Tryz.ntmps148
    go_wp2_with fail
    refine (qAre_any [seed] _ 1 _ (by simp) HS0.out).mono ?_
    rintro e w1 ⟨rfl, rfl⟩
    rw [HM.out]
    go_wp2
    go_loopw [13] (fun i wr => ∃ k : Nat, k ≤ 35 ∧ i = .int .i64 (k : Int) ∧ Hid (Below w.heap.size w wr ∧ Holds wr (w.heap.size + 1) 35 (sfill (pubChains seed key 35) k) 309)) (fun i _ => 35 - (intOf i).toNat)
    case atStart =>
      refine ⟨0, by omega, rfl, Lib.hid ⟨HB0.out.trans ((alloc_below _ _).mono (by simp)), ?_⟩⟩
      have hz := Holds.new (w.alloc (.cells (stCells [seed]).toArray 9)) 35 (fun _ => .string ⟨#[]⟩) 309
      rw [World.size_alloc] at hz
      exact hz.congr fun i hi => by unfold sfill; rw [if_neg (by omega)]
    case round =>
      obtain ⟨k, hk, rfl, HU⟩ := hrel
      by_cases hlt : k < 35
      · have HN := Lib.hid HU.out.2.lt
        have HXK := Lib.hid (show (pubChains seed key 35)[k]? = some (alongFrom (k : Int) 15 0 (seedOf seed key k)) from map_range_at _ 35 k hlt)
        go_wp2_with fail
        refine (qFirst_any seed key k _ (HK.out.below HU.out.1 HK.out.lt) H16.out).mono ?_
        rintro e w2 ⟨rfl, hb2⟩
        have HB2 := Lib.hid (HU.out.1.trans (hb2.mono HU.out.1.size))
        have HH2 := Lib.hid (HU.out.2.below hb2 HN.out)
        have HL2 := Lib.hid (Nat.lt_of_lt_of_le HN.out hb2.size)
        clear hb2
        go_wp2_with fail
        refine (qWalk_any (seedOf seed key k) (k : Int) 0 15 _ (HK.out.below HB2.out HK.out.lt) (seedOf_size _ _ _) (by omega) (by omega)).mono ?_
        rintro e w3 ⟨rfl, hb3⟩
        have HB3 := Lib.hid (HB2.out.trans (hb3.mono HB2.out.size))
        have HH3 := Lib.hid (HH2.out.below hb3 HL2.out)
        clear hb3
        have c0 := HH3.out.cell k hlt
        have f0 := HH3.out.free k
        rw [show sfill (pubChains seed key 35) k k = .string ⟨#[]⟩ by unfold sfill; rw [if_neg (by omega)]] at c0
        go_wp2
        go_roundw
        case rel =>
          refine ⟨k + 1, by omega, by go_num, Lib.hid ⟨HB3.out.setCell (by show w.heap.size ≤ w.heap.size + 1; omega) _, ?_⟩⟩
          rw [← sfill_succ _ k _ HXK.out]
          exact HH3.out.set k _
        case measure => simp [intOf]; omega
      · obtain rfl : k = 35 := by omega
        have HLEN := Lib.hid (show (pubChains seed key 35).length = 35 from chains_len _ _)
        have HST := Lib.hid (strs_of_holds HU.out.2 HLEN.out)
        have HTOT := Lib.hid (show total (pubChains seed key 35) ≤ 1073741800 by have := total_leM _ 16 (pub_size seed key 35); rw [HLEN.out] at this; omega)
        have HKW := Lib.hid (HK.out.below HU.out.1 HK.out.lt)
        have HMA := Lib.hid (mark_any 112 (pubChains seed key 35) (some ⟨w.heap.size + 1, 0, none⟩) 35 wr HKW.out HTOT.out (by rw [HLEN.out]; omega) HST.out)
        rw [HLEN.out] at HMA
        clear hlt hk
        go_wp2_with fail
        refine HMA.out.mono ?_
        rintro e w7 ⟨rfl, hb7⟩
        have HB7 := Lib.hid (HU.out.1.trans (hb7.mono HU.out.1.size))
        clear hb7 HMA
        go_wp2
        refine bodyPost_ret (results_tmp2 rfl _ _ _) rfl ?_
        exact ⟨by rw [← HX.out]; rfl, HB7.out⟩
  · rw [if_neg h16] at h
    obtain ⟨rfl, rfl⟩ := Prod.mk.inj h
    have HM := Lib.hid (oneMark (decide_eq_false h16))
    clear h h16
    go_enter Tryz.func148, Tryz.ntmps148
    go_wp2_with fail
    refine (qAre_any [seed] _ 1 _ (by simp) HS0.out).mono ?_
    rintro e w1 ⟨rfl, rfl⟩
    rw [HM.out]
    go_wp2
    refine bodyPost_ret (results_tmp2 rfl _ _ _) rfl ?_
    exact ⟨rfl, HB0.out⟩
end Go.Proofs.YtcfpmofmjnhonaaGreatDoor
