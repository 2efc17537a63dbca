/- (*running).mix: the full block is taken into the state. -/
import Derived.Test.YthbfmdgnhipobaaDoorWords
import Derived.RegionTactic
namespace Go.Proofs.YthbfmdgnhipobaaDoor
open Go.RowKit

/-- The numbers of the rounds, as the program's text lays them. -/
def kTab : List Nat := [1116352408, 1899447441, 3049323471, 3921009573, 961987163, 1508970993, 2453635748, 2870763221, 3624381080, 310598401, 607225278, 1426881987, 1925078388, 2162078206, 2614888103, 3248222580, 3835390401, 4022224774, 264347078, 604807628, 770255983, 1249150122, 1555081692, 1996064986, 2554220882, 2821834349, 2952996808, 3210313671, 3336571891, 3584528711, 113926993, 338241895, 666307205, 773529912, 1294757372, 1396182291, 1695183700, 1986661051, 2177026350, 2456956037, 2730485921, 2820302411, 3259730800, 3345764771, 3516065817, 3600352804, 4094571909, 275423344, 430227734, 506948616, 659060556, 883997877, 958139571, 1322822218, 1537002063, 1747873779, 1955562222, 2024104815, 2227730452, 2361852424, 2428436474, 2756734187, 3204031479, 3329325298]
def kOf (i : Nat) : BitVec 32 := BitVec.ofNat 32 (kTab.getD i 0)
/-- The variable of the program that holds them. -/
def HasK (w : World) : Prop := ∀ i, i < 64 → w.cell? ⟨0, i, none⟩ = some (.int .u32 (W32 (kOf i)))
theorem HasK.lt {w : World} (h : HasK w) : 0 < w.heap.size := block_lt_of_cell (h 0 (by omega))
theorem HasK.below {w w' : World} (h : HasK w) {B : Nat} (hb : Below B w w') (hB : 0 < B) : HasK w' := fun i hi => (hb.cell hB).trans (h i hi)
theorem HasK.but {w w' : World} (h : HasK w) {B : Nat} (hb : But B w w') (hB : 0 ≠ B) : HasK w' := fun i hi => by
  rw [← h i hi]; exact World.cell?_of_block (w := w) (hb.block _ h.lt hB)

def rstep (s : Nat → BitVec 32) (k w : BitVec 32) : Nat → BitVec 32 := fun i =>
  let t := (s 7 + S1 (s 4)) + ((ch (s 4) (s 5) (s 6) + k) + w)
  let u := S0 (s 0) + maj (s 0) (s 1) (s 2)
  if i = 0 then t + u else if i = 4 then s 3 + t else s (i - 1)
def rounds (s W : Nat → BitVec 32) : Nat → Nat → BitVec 32
  | 0 => s
  | n + 1 => rstep (rounds s W n) (kOf n) (W n)
/-- What a state is behind a block. -/
def mixed (s : Nat → BitVec 32) (blk : Nat → Nat) : Nat → BitVec 32 := fun i => s i + rounds s (wext blk 48) 64 i

/-- A running sum's cells. -/
def rc (st : Nat → BitVec 32) (blk : Nat → Nat) (size : Nat) : Nat → Value := fun i => if i < 8 then .int .u32 (W32 (st i)) else if i < 72 then .int .u8 (blk (i - 8) : Int) else .int .u64 (size : Int)
theorem rc_st (st : Nat → BitVec 32) (blk : Nat → Nat) (size i : Nat) (h : i < 8) : rc st blk size i = .int .u32 (W32 (st i)) := by simp [rc, h]
theorem rc_blk (st : Nat → BitVec 32) (blk : Nat → Nat) (size i : Nat) (h : i < 64) : rc st blk size (8 + i) = .int .u8 (blk i : Int) := by
  unfold rc; rw [if_neg (by omega), if_pos (by omega), show 8 + i - 8 = i from by omega]
theorem rc_size (st : Nat → BitVec 32) (blk : Nat → Nat) (size : Nat) : rc st blk size 72 = .int .u64 (size : Int) := by simp [rc]

structure MixRel (B N : Nat) (w wr : World) (st : Nat → BitVec 32) (blk : Nat → Nat) (size : Nat) : Prop where
  but : But B w wr
  k : HasK wr
  run : Holds wr B 73 (rc st blk size) 64
  own : Holds wr N 64 (fun i => V32 (wext blk 48 i)) 44
theorem infoW : (Tryd.prog.info? 44).map (·.size) = some 64 := by kernel_rfl

theorem idx8 (s : Nat → BitVec 32) (j : Nat) (hj : j < 8) (wx : World) : (Instr.index 43 (.agg #[.int .u32 (W32 (s 0)), .int .u32 (W32 (s 1)), .int .u32 (W32 (s 2)), .int .u32 (W32 (s 3)), .int .u32 (W32 (s 4)), .int .u32 (W32 (s 5)), .int .u32 (W32 (s 6)), .int .u32 (W32 (s 7))]) (.int .i64 (j : Int))).run Tryd.prog wx = .ok (.int .u32 (W32 (s j))) wx := by
  rcases (by omega : j = 0 ∨ j = 1 ∨ j = 2 ∨ j = 3 ∨ j = 4 ∨ j = 5 ∨ j = 6 ∨ j = 7) with rfl | rfl | rfl | rfl | rfl | rfl | rfl | rfl <;> kernel_rfl
set_option maxRecDepth 100000 in
theorem mix_any (B : Nat) (st : Nat → BitVec 32) (blk : Nat → Nat) (size : Nat) (w : World) (hk : HasK w)
    (hr : Holds w B 73 (rc st blk size) 64) :
    Calls Tryd.prog 39 #[.pointer (some ⟨B, 0, none⟩)] w fun e w' => e = .returned (.tuple #[]) ∧ But B w w' ∧ Holds w' B 73 (rc (mixed st blk) blk size) 64 := by
  have HB := hr.lt
  have hblk : ∀ i, i < 64 → w.cell? ⟨B, 8 + i, none⟩ = some (.int .u8 (blk i : Int)) := fun i hi => by rw [hr.cell (8 + i) (by omega), rc_blk _ _ _ _ hi]
  have HBLK := Lib.hid hblk
  have HK := Lib.hid hk
  have HR := Lib.hid hr
  clear hblk hk hr
  go_enter Tryd.func39, Tryd.ntmps39
  go_wp2_with fail
  refine (words_any B blk _ HB HBLK.out).mono ?_
  rintro e w1 ⟨rfl, hb1⟩
  obtain ⟨z, ez⟩ : ∃ z, z = arr 64 fun i => V32 (wext blk 48 i) := ⟨_, rfl⟩
  rw [← ez]
  have EZ := Lib.hid ez
  have HB1 := Lib.hid hb1
  clear ez hb1
  have hiz : (Tryd.prog.info? 44).map (·.size) = some z.size := by rw [EZ.out, arr_size]; exact infoW
  have hz1 : z.all (·.oneCell') = true := by rw [EZ.out]; exact arr_one 64 _ (fun _ => rfl)
  have hz2 : 64 = z.size := by rw [EZ.out, arr_size]
  have HI := Lib.hid hiz
  have H1 := Lib.hid hz1
  have H2 := Lib.hid hz2
  have hl1 : B < w1.heap.size := Nat.lt_of_lt_of_le HB HB1.out.size
  have hst : ∀ i, i < 8 → w1.cell? ⟨B, i, none⟩ = some (.int .u32 (W32 (st i))) := fun i hi => by
    rw [HB1.out.cell HB, HR.out.cell i (by omega), rc_st _ _ _ _ hi]
  have c0 := hst 0 (by omega)
  have c1 := hst 1 (by omega)
  have c2 := hst 2 (by omega)
  have c3 := hst 3 (by omega)
  have c4 := hst 4 (by omega)
  have c5 := hst 5 (by omega)
  have c6 := hst 6 (by omega)
  have c7 := hst 7 (by omega)
  clear hiz hz1 hz2 hst
  have hne : ¬ B = w1.heap.size := by omega
  go_wp2_with (refine wpList_store_new rfl 44 (.tmp 2) (.tmp 17) rfl z rfl rfl 44 _ HI.out H2.out H1.out ?_)
  go_quiet (fail)
  go_wp2
  go_quiet (fail)
  go_wp2
  have hm : ∀ n1 n2 : Nat, MixRel B w1.heap.size w (((w1.alloc (.cells z 44)).drewN n1).drewN n2) st blk size := by
    intro n1 n2
    refine ⟨⟨HB1.out.os, HB1.out.tape, HB1.out.output, ?_, ?_⟩, fun i hi => ?_, ?_, ?_⟩
    · have := HB1.out.size; simp; omega
    · intro k hk _
      exact (Below.heap_alloc _ _ _ (Nat.lt_of_lt_of_le hk HB1.out.size)).trans (HB1.out.block k hk)
    · have hlt := Nat.lt_of_lt_of_le HK.out.lt HB1.out.size
      rw [← HK.out i hi]
      exact World.cell?_of_block (w := w) ((Below.heap_alloc _ _ _ hlt).trans (HB1.out.block _ HK.out.lt))
    · exact (HR.out.below HB1.out HB).alloc _
    · rw [EZ.out]; exact Holds.new w1 64 _ _
  have HM := Lib.hid hm
  clear hm c0 c1 c2 c3 c4 c5 c6 c7
  go_loopw [58, 3, 4, 5, 6, 7, 8, 9, 10] (fun i a b c d e f g h wr => ∃ n : Nat, n ≤ 64 ∧ i = .int .i64 n ∧ a = .int .u32 (W32 (rounds st (wext blk 48) n 0)) ∧ b = .int .u32 (W32 (rounds st (wext blk 48) n 1)) ∧
      c = .int .u32 (W32 (rounds st (wext blk 48) n 2)) ∧ d = .int .u32 (W32 (rounds st (wext blk 48) n 3)) ∧ e = .int .u32 (W32 (rounds st (wext blk 48) n 4)) ∧ f = .int .u32 (W32 (rounds st (wext blk 48) n 5)) ∧
      g = .int .u32 (W32 (rounds st (wext blk 48) n 6)) ∧ h = .int .u32 (W32 (rounds st (wext blk 48) n 7)) ∧ MixRel B w1.heap.size w wr st blk size)
    (fun i _ _ _ _ _ _ _ _ _ => 64 - (intOf i).toNat)
  case atStart => exact ⟨0, by omega, rfl, rfl, rfl, rfl, rfl, rfl, rfl, rfl, rfl, HM.out _ _⟩
  case round =>
    obtain ⟨n, hn, rfl, rfl, rfl, rfl, rfl, rfl, rfl, rfl, rfl, hr⟩ := hrel
    generalize hs : rounds st (wext blk 48) n = s
    have HS := Lib.hid hs
    have HREL := Lib.hid hr
    clear hs hr
    by_cases hlt : n < 64
    · have ck := HREL.out.k n hlt
      have cw : wr.cell? ⟨w1.heap.size, n, none⟩ = some (.int .u32 (W32 (wext blk 48 n))) := HREL.out.own.cell n hlt
      go_wp2_with (go_at_call 44; refine (rot_any _ _ (by decide) (by decide) _).mono ?_; rintro e w' ⟨rfl, rfl⟩)
      go_quiet (fail)
      go_wp2_with (go_at_call 44; refine (rot_any _ _ (by decide) (by decide) _).mono ?_; rintro e w' ⟨rfl, rfl⟩)
      go_roundw
      case rel =>
        have e1 : rounds st (wext blk 48) (n + 1) = rstep s (kOf n) (wext blk 48 n) := by rw [← HS.out]; rfl
        refine ⟨n + 1, by omega, by go_num, ?_, ?_, ?_, ?_, ?_, ?_, ?_, ?_, ?_⟩
        · rw [e1]; simp only [w_xor, w_and, w_andNot, w_t1, w_add]; rfl
        · rw [e1]; rfl
        · rw [e1]; rfl
        · rw [e1]; rfl
        · rw [e1]; simp only [w_xor, w_and, w_andNot, w_t1, w_add]; rfl
        · rw [e1]; rfl
        · rw [e1]; rfl
        · rw [e1]; rfl
        · exact ⟨HREL.out.but.drewN _, HREL.out.k, HREL.out.run, HREL.out.own⟩
      case measure => simp [intOf]; omega
    · have hn64 : n = 64 := by omega
      have HN := Lib.hid hn64
      clear hn64 hn
      have hidx := idx8 s
      have HIDX := Lib.hid hidx
      clear hidx
      go_wp2
      clear hlt
      go_loopw [131] (fun i wi => ∃ j : Nat, j ≤ 8 ∧ i = .int .i64 j ∧ But B w wi ∧ Holds wi B 73 (rc (fun i => if i < j then st i + s i else st i) blk size) 64) (fun i _ => 8 - (intOf i).toNat)
      case atStart => exact ⟨0, by omega, rfl, HREL.out.but, HREL.out.run⟩
      case round =>
        obtain ⟨j, hj, rfl, hb2, hr2⟩ := hrel
        have HB2 := Lib.hid hb2
        have HR2 := Lib.hid hr2
        clear hb2 hr2
        by_cases hlj : j < 8
        · have hix := HIDX.out j hlj
          have cj : wr.cell? ⟨B, j, none⟩ = some (.int .u32 (W32 (st j))) := by
            rw [HR2.out.cell j (by omega), rc_st _ _ _ _ hlj]; simp
          have fj := HR2.out.free j
          go_wp2
          go_region
          all_goals go_wp2
          go_roundw
          case rel =>
            refine ⟨j + 1, by omega, by go_num, (HB2.out.set j _).drew, ?_⟩
            rw [w_add]
            refine ((HR2.out.set j (.int .u32 (W32 (st j + s j)))).drew).congr fun i hi => ?_
            unfold upd rc
            by_cases hij : i = j
            · subst hij; simp [hlj]
            · rw [if_neg hij]
              by_cases hi8 : i < 8
              · simp only [hi8, if_true]
                by_cases h3 : i < j
                · rw [if_pos h3, if_pos (by omega)]
                · rw [if_neg h3, if_neg (by omega)]
              · simp only [hi8, if_false]
          case measure => simp [intOf]; omega
        · go_wp2
          go_end0
          refine ⟨rfl, HB2.out, HR2.out.congr fun i hi => ?_⟩
          unfold rc mixed
          rw [← HN.out, HS.out]
          by_cases hi8 : i < 8
          · simp only [hi8, if_true]; rw [if_pos (by omega)]
          · simp only [hi8, if_false]
end Go.Proofs.YthbfmdgnhipobaaDoor
