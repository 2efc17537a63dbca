/- Parts of the proof, one behind the other: Mix, Feed, Add, Eight, Pad. -/
import Derived.WalkKit
import Derived.Lib.Hide
import Derived.WalkLawsBesides
import Derived.Deep.QuietTactic
import Derived.Deep.WholeRow
import Derived.Laws.BitsAllLaws
import Derived.Test.YtgjmbokfenpefaaGreatDoorProg
import Derived.Outline
import Derived.BigQuiet
import Derived.Laws.CopyOwn
import Derived.RegionTactic
import Derived.Laws.CopyRow
import Derived.Deep.RegionLaw
import Derived.Laws.BytesString
import Derived.Test.YtgjmbokfenpefaaGreatDoorM1
import Derived.Test.YtgjmbokfenpefaaGreatDoorM2
/- (*running).mix: the full block is taken into the state. -/
namespace Go.Proofs.YtgjmbokfenpefaaGreatDoor
open Go.RowKit

/-- The numbers of the rounds, as the program's text lays them. -/
def kTab : List Nat := [1116352408, 1899447441, 3049323471, 3921009573, 961987163, 1508970993, 2453635748, 2870763221, 3624381080, 310598401, 607225278, 1426881987, 1925078388, 2162078206, 2614888103, 3248222580, 3835390401, 4022224774, 264347078, 604807628, 770255983, 1249150122, 1555081692, 1996064986, 2554220882, 2821834349, 2952996808, 3210313671, 3336571891, 3584528711, 113926993, 338241895, 666307205, 773529912, 1294757372, 1396182291, 1695183700, 1986661051, 2177026350, 2456956037, 2730485921, 2820302411, 3259730800, 3345764771, 3516065817, 3600352804, 4094571909, 275423344, 430227734, 506948616, 659060556, 883997877, 958139571, 1322822218, 1537002063, 1747873779, 1955562222, 2024104815, 2227730452, 2361852424, 2428436474, 2756734187, 3204031479, 3329325298]
def kOf (i : Nat) : BitVec 32 := BitVec.ofNat 32 (kTab.getD i 0)
/-- The variable of the program that holds them. -/
def HasK (w : World) : Prop := ∀ i, i < 64 → w.cell? ⟨1, i, none⟩ = some (.int .u32 (W32 (kOf i)))
theorem HasK.lt {w : World} (h : HasK w) : 1 < w.heap.size := block_lt_of_cell (h 0 (by omega))
theorem HasK.below {w w' : World} (h : HasK w) {B : Nat} (hb : Below B w w') (hB : 1 < B) : HasK w' := fun i hi => (hb.cell hB).trans (h i hi)
theorem HasK.but {w w' : World} (h : HasK w) {B : Nat} (hb : But B w w') (hB : 1 ≠ B) : HasK w' := fun i hi => by
  rw [← h i hi]; exact World.cell?_of_block (w := w) (hb.block _ h.lt hB)

def rstep (s : Nat → BitVec 32) (k w : BitVec 32) : Nat → BitVec 32 := fun i =>
  let t := (s 7 + S1 (s 4)) + ((ch (s 4) (s 5) (s 6) + k) + w)
  let u := S0 (s 0) + maj (s 0) (s 1) (s 2)
  if i = 0 then t + u else if i = 4 then s 3 + t else s (i - 1)
def rounds (s W : Nat → BitVec 32) : Nat → Nat → BitVec 32
  | 0 => s
  | n + 1 => rstep (rounds s W n) (kOf n) (W n)
/-- What a state is behind a block. -/
def mixed (s : Nat → BitVec 32) (blk : Nat → Nat) : Nat → BitVec 32 := fun i => s i + rounds s (wext blk 48) 64 i

/-- A running sum's cells. -/
def rc (st : Nat → BitVec 32) (blk : Nat → Nat) (size : Nat) : Nat → Value := fun i => if i < 8 then .int .u32 (W32 (st i)) else if i < 72 then .int .u8 (blk (i - 8) : Int) else .int .u64 (size : Int)
theorem rc_st (st : Nat → BitVec 32) (blk : Nat → Nat) (size i : Nat) (h : i < 8) : rc st blk size i = .int .u32 (W32 (st i)) := by simp [rc, h]
theorem rc_blk (st : Nat → BitVec 32) (blk : Nat → Nat) (size i : Nat) (h : i < 64) : rc st blk size (8 + i) = .int .u8 (blk i : Int) := by
  unfold rc; rw [if_neg (by omega), if_pos (by omega), show 8 + i - 8 = i from by omega]
theorem rc_size (st : Nat → BitVec 32) (blk : Nat → Nat) (size : Nat) : rc st blk size 72 = .int .u64 (size : Int) := by simp [rc]

structure MixRel (B N : Nat) (w wr : World) (st : Nat → BitVec 32) (blk : Nat → Nat) (size : Nat) : Prop where
  but : But B w wr
  k : HasK wr
  run : Holds wr B 73 (rc st blk size) 263
  own : Holds wr N 64 (fun i => V32 (wext blk 48 i)) 95
theorem infoW : (Tryz.prog.info? 95).map (·.size) = some 64 := by kernel_rfl

theorem idx8 (s : Nat → BitVec 32) (j : Nat) (hj : j < 8) (wx : World) : (Instr.index 94 (.agg #[.int .u32 (W32 (s 0)), .int .u32 (W32 (s 1)), .int .u32 (W32 (s 2)), .int .u32 (W32 (s 3)), .int .u32 (W32 (s 4)), .int .u32 (W32 (s 5)), .int .u32 (W32 (s 6)), .int .u32 (W32 (s 7))]) (.int .i64 (j : Int))).run Tryz.prog wx = .ok (.int .u32 (W32 (s j))) wx := by
  rcases (by omega : j = 0 ∨ j = 1 ∨ j = 2 ∨ j = 3 ∨ j = 4 ∨ j = 5 ∨ j = 6 ∨ j = 7) with rfl | rfl | rfl | rfl | rfl | rfl | rfl | rfl <;> kernel_rfl
set_option maxRecDepth 100000 in
theorem mix_any (B : Nat) (st : Nat → BitVec 32) (blk : Nat → Nat) (size : Nat) (w : World) (hk : HasK w)
    (hr : Holds w B 73 (rc st blk size) 263) :
    Calls Tryz.prog 199 #[.pointer (some ⟨B, 0, none⟩)] w fun e w' => e = .returned (.tuple #[]) ∧ But B w w' ∧ Holds w' B 73 (rc (mixed st blk) blk size) 263 := by
  have HB := hr.lt
  have hblk : ∀ i, i < 64 → w.cell? ⟨B, 8 + i, none⟩ = some (.int .u8 (blk i : Int)) := fun i hi => by rw [hr.cell (8 + i) (by omega), rc_blk _ _ _ _ hi]
  have HBLK := Lib.hid hblk
  have HK := Lib.hid hk
  have HR := Lib.hid hr
  clear hblk hk hr
  go_enter Tryz.func199, Tryz.ntmps199
  go_wp2_with fail
  refine (words_any B blk _ HB HBLK.out).mono ?_
  rintro e w1 ⟨rfl, hb1⟩
  obtain ⟨z, ez⟩ : ∃ z, z = arr 64 fun i => V32 (wext blk 48 i) := ⟨_, rfl⟩
  rw [← ez]
  have EZ := Lib.hid ez
  have HB1 := Lib.hid hb1
  clear ez hb1
  have hiz : (Tryz.prog.info? 95).map (·.size) = some z.size := by rw [EZ.out, arr_size]; exact infoW
  have hz1 : z.all (·.oneCell') = true := by rw [EZ.out]; exact arr_one 64 _ (fun _ => rfl)
  have hz2 : 64 = z.size := by rw [EZ.out, arr_size]
  have HI := Lib.hid hiz
  have H1 := Lib.hid hz1
  have H2 := Lib.hid hz2
  have hl1 : B < w1.heap.size := Nat.lt_of_lt_of_le HB HB1.out.size
  have hst : ∀ i, i < 8 → w1.cell? ⟨B, i, none⟩ = some (.int .u32 (W32 (st i))) := fun i hi => by
    rw [HB1.out.cell HB, HR.out.cell i (by omega), rc_st _ _ _ _ hi]
  have c0 := hst 0 (by omega)
  have c1 := hst 1 (by omega)
  have c2 := hst 2 (by omega)
  have c3 := hst 3 (by omega)
  have c4 := hst 4 (by omega)
  have c5 := hst 5 (by omega)
  have c6 := hst 6 (by omega)
  have c7 := hst 7 (by omega)
  clear hiz hz1 hz2 hst
  have hne : ¬ B = w1.heap.size := by omega
  go_wp2_with (refine wpList_store_new rfl 95 (.tmp 2) (.tmp 17) rfl z rfl rfl 95 _ HI.out H2.out H1.out ?_)
  go_quiet (fail)
  go_wp2
  go_quiet (fail)
  go_wp2
  have hm : ∀ n1 n2 : Nat, MixRel B w1.heap.size w (((w1.alloc (.cells z 95)).drewN n1).drewN n2) st blk size := by
    intro n1 n2
    refine ⟨⟨HB1.out.os, HB1.out.tape, HB1.out.output, ?_, ?_⟩, fun i hi => ?_, ?_, ?_⟩
    · have := HB1.out.size; simp; omega
    · intro k hk _
      exact (Below.heap_alloc _ _ _ (Nat.lt_of_lt_of_le hk HB1.out.size)).trans (HB1.out.block k hk)
    · have hlt := Nat.lt_of_lt_of_le HK.out.lt HB1.out.size
      rw [← HK.out i hi]
      exact World.cell?_of_block (w := w) ((Below.heap_alloc _ _ _ hlt).trans (HB1.out.block _ HK.out.lt))
    · exact (HR.out.below HB1.out HB).alloc _
    · rw [EZ.out]; exact Holds.new w1 64 _ _
  have HM := Lib.hid hm
  clear hm c0 c1 c2 c3 c4 c5 c6 c7
  go_loopw [58, 3, 4, 5, 6, 7, 8, 9, 10] (fun i a b c d e f g h wr => ∃ n : Nat, n ≤ 64 ∧ i = .int .i64 n ∧ a = .int .u32 (W32 (rounds st (wext blk 48) n 0)) ∧ b = .int .u32 (W32 (rounds st (wext blk 48) n 1)) ∧
      c = .int .u32 (W32 (rounds st (wext blk 48) n 2)) ∧ d = .int .u32 (W32 (rounds st (wext blk 48) n 3)) ∧ e = .int .u32 (W32 (rounds st (wext blk 48) n 4)) ∧ f = .int .u32 (W32 (rounds st (wext blk 48) n 5)) ∧
      g = .int .u32 (W32 (rounds st (wext blk 48) n 6)) ∧ h = .int .u32 (W32 (rounds st (wext blk 48) n 7)) ∧ MixRel B w1.heap.size w wr st blk size)
    (fun i _ _ _ _ _ _ _ _ _ => 64 - (intOf i).toNat)
  case atStart => exact ⟨0, by omega, rfl, rfl, rfl, rfl, rfl, rfl, rfl, rfl, rfl, HM.out _ _⟩
  case round =>
    obtain ⟨n, hn, rfl, rfl, rfl, rfl, rfl, rfl, rfl, rfl, rfl, hr⟩ := hrel
    generalize hs : rounds st (wext blk 48) n = s
    have HS := Lib.hid hs
    have HREL := Lib.hid hr
    clear hs hr
    by_cases hlt : n < 64
    · have ck := HREL.out.k n hlt
      have cw : wr.cell? ⟨w1.heap.size, n, none⟩ = some (.int .u32 (W32 (wext blk 48 n))) := HREL.out.own.cell n hlt
      go_wp2_with (go_at_call 240; refine (rot_any _ _ (by decide) (by decide) _).mono ?_; rintro e w' ⟨rfl, rfl⟩)
      go_quiet (fail)
      go_wp2_with (go_at_call 240; refine (rot_any _ _ (by decide) (by decide) _).mono ?_; rintro e w' ⟨rfl, rfl⟩)
      go_roundw
      case rel =>
        have e1 : rounds st (wext blk 48) (n + 1) = rstep s (kOf n) (wext blk 48 n) := by rw [← HS.out]; rfl
        refine ⟨n + 1, by omega, by go_num, ?_, ?_, ?_, ?_, ?_, ?_, ?_, ?_, ?_⟩
        · rw [e1]; simp only [w_xor, w_and, w_andNot, w_t1, w_add]; rfl
        · rw [e1]; rfl
        · rw [e1]; rfl
        · rw [e1]; rfl
        · rw [e1]; simp only [w_xor, w_and, w_andNot, w_t1, w_add]; rfl
        · rw [e1]; rfl
        · rw [e1]; rfl
        · rw [e1]; rfl
        · exact ⟨HREL.out.but.drewN _, HREL.out.k, HREL.out.run, HREL.out.own⟩
      case measure => simp [intOf]; omega
    · have hn64 : n = 64 := by omega
      have HN := Lib.hid hn64
      clear hn64 hn
      have hidx := idx8 s
      have HIDX := Lib.hid hidx
      clear hidx
      go_wp2
      clear hlt
      go_loopw [131] (fun i wi => ∃ j : Nat, j ≤ 8 ∧ i = .int .i64 j ∧ But B w wi ∧ Holds wi B 73 (rc (fun i => if i < j then st i + s i else st i) blk size) 263) (fun i _ => 8 - (intOf i).toNat)
      case atStart => exact ⟨0, by omega, rfl, HREL.out.but, HREL.out.run⟩
      case round =>
        obtain ⟨j, hj, rfl, hb2, hr2⟩ := hrel
        have HB2 := Lib.hid hb2
        have HR2 := Lib.hid hr2
        clear hb2 hr2
        by_cases hlj : j < 8
        · have hix := HIDX.out j hlj
          have cj : wr.cell? ⟨B, j, none⟩ = some (.int .u32 (W32 (st j))) := by
            rw [HR2.out.cell j (by omega), rc_st _ _ _ _ hlj]; simp
          have fj := HR2.out.free j
          go_wp2
          go_region
          all_goals go_wp2
          go_roundw
          case rel =>
            refine ⟨j + 1, by omega, by go_num, (HB2.out.set j _).drew, ?_⟩
            rw [w_add]
            refine ((HR2.out.set j (.int .u32 (W32 (st j + s j)))).drew).congr fun i hi => ?_
            unfold upd rc
            by_cases hij : i = j
            · subst hij; simp [hlj]
            · rw [if_neg hij]
              by_cases hi8 : i < 8
              · simp only [hi8, if_true]
                by_cases h3 : i < j
                · rw [if_pos h3, if_pos (by omega)]
                · rw [if_neg h3, if_neg (by omega)]
              · simp only [hi8, if_false]
          case measure => simp [intOf]; omega
        · go_wp2
          go_end0
          refine ⟨rfl, HB2.out, HR2.out.congr fun i hi => ?_⟩
          unfold rc mixed
          rw [← HN.out, HS.out]
          by_cases hi8 : i < 8
          · simp only [hi8, if_true]; rw [if_pos (by omega)]
          · simp only [hi8, if_false]
end Go.Proofs.YtgjmbokfenpefaaGreatDoor
/- What a running sum is, byte by byte. -/
namespace Go.Proofs.YtgjmbokfenpefaaGreatDoor
open Go.RowKit

structure RS where
  st : Nat → BitVec 32
  blk : Nat → Nat
  size : Nat
def RS.cells (r : RS) : Nat → Value := rc r.st r.blk r.size
def feed1 (r : RS) (b : UInt8) : RS :=
  { st := if (r.size + 1) % 64 = 0 then mixed r.st (upd r.blk (r.size % 64) b.toNat) else r.st, blk := upd r.blk (r.size % 64) b.toNat, size := r.size + 1 }
def feed (r : RS) (l : List UInt8) : RS := l.foldl feed1 r
theorem feed_nil (r : RS) : feed r [] = r := rfl
theorem feed_cons (r : RS) (b : UInt8) (l : List UInt8) : feed r (b :: l) = feed (feed1 r b) l := rfl
theorem feed_append (r : RS) (l m : List UInt8) : feed r (l ++ m) = feed (feed r l) m := by unfold feed; rw [List.foldl_append]
theorem feed_size (r : RS) (l : List UInt8) : (feed r l).size = r.size + l.length := by
  induction l generalizing r with
  | nil => rfl
  | cons b l ih => rw [feed_cons, ih]; simp [feed1]; omega
/-- A block over which bytes are laid from place p on. -/
def lay (blk : Nat → Nat) (p : Nat) (l : List UInt8) : Nat → Nat := fun i => if p ≤ i ∧ i < p + l.length then (l.getD (i - p) 0).toNat else blk i
theorem lay_cons (blk : Nat → Nat) (p : Nat) (b : UInt8) (l : List UInt8) : lay (upd blk p b.toNat) (p + 1) l = lay blk p (b :: l) := by
  funext i
  unfold lay upd
  simp only [List.length_cons]
  by_cases h : i = p
  · subst h; rw [if_neg (by omega), if_pos rfl, if_pos (by omega)]; simp
  · by_cases h2 : p + 1 ≤ i ∧ i < p + 1 + l.length
    · rw [if_pos h2, if_pos (by omega)]
      obtain ⟨j, rfl⟩ : ∃ j, i = p + 1 + j := ⟨i - (p + 1), by omega⟩
      rw [show p + 1 + j - (p + 1) = j from by omega, show p + 1 + j - p = j + 1 from by omega]
      rfl
    · rw [if_neg h2, if_neg h, if_neg (by omega)]
theorem feed_piece (l : List UInt8) : ∀ r : RS, l ≠ [] → r.size % 64 + l.length ≤ 64 →
    feed r l = { st := if (r.size + l.length) % 64 = 0 then mixed r.st (lay r.blk (r.size % 64) l) else r.st, blk := lay r.blk (r.size % 64) l, size := r.size + l.length } := by
  induction l with
  | nil => intro r h; exact absurd rfl h
  | cons b l ih =>
    intro r _ hl
    simp only [List.length_cons] at hl
    rw [feed_cons]
    cases l with
    | nil =>
      rw [feed_nil]
      have e : lay r.blk (r.size % 64) [b] = upd r.blk (r.size % 64) b.toNat := by
        rw [← lay_cons]; funext i; unfold lay; rw [if_neg (by simp)]
      simp only [feed1, e, List.length_cons, List.length_nil]
    | cons c l =>
      simp only [List.length_cons] at hl
      have hn : ¬ r.size % 64 + 1 = 0 := by omega
      have hm : (r.size + 1) % 64 = r.size % 64 + 1 := by omega
      rw [ih (feed1 r b) (by simp) (by simp only [feed1, List.length_cons]; omega)]
      simp only [feed1, hn, if_false, hm, lay_cons, List.length_cons]
      simp only [show r.size + 1 + (l.length + 1) = r.size + (l.length + 1 + 1) from by omega]
theorem feed_none (r : RS) (l : List UInt8) (h : l.length = 0) : feed r l = r := by rw [List.eq_nil_of_length_eq_zero h]; rfl
theorem over_rc (st : Nat → BitVec 32) (blk : Nat → Nat) (size p : Nat) (l : List UInt8) (hl : p + l.length ≤ 64) (i : Nat) : over (rc st blk size) (8 + p) (bcells l) i = rc st (lay blk p l) size i := by
  unfold over
  rw [bcells_length]
  by_cases h : 8 + p ≤ i ∧ i < 8 + p + l.length
  · rw [if_pos h]
    unfold rc lay
    rw [if_neg (by omega), if_pos (by omega), if_pos (by omega)]
    obtain ⟨j, rfl⟩ : ∃ j, i = 8 + p + j := ⟨i - (8 + p), by omega⟩
    rw [show 8 + p + j - (8 + p) = j from by omega, show 8 + p + j - 8 - p = j from by omega]
    have hj : j < l.length := by omega
    simp [bcells, List.getD_eq_getElem?_getD, hj]
  · rw [if_neg h]
    unfold rc lay
    by_cases h8 : i < 8
    · rw [if_pos h8, if_pos h8]
    · rw [if_neg h8, if_neg h8]
      by_cases h72 : i < 72
      · rw [if_pos h72, if_pos h72, if_neg (by omega)]
      · rw [if_neg h72, if_neg h72]
end Go.Proofs.YtgjmbokfenpefaaGreatDoor
/- (*running).add: a piece of text is taken in. -/
namespace Go.Proofs.YtgjmbokfenpefaaGreatDoor
open Go.RowKit

def strLen : Value → Nat | .string s => s.size | _ => 0
theorem size8 (w : World) : (Go.sizeOf 5).run Tryz.prog w = .ok 1 w := by kernel_rfl
theorem info8 : (Tryz.prog.info? 5).map (·.size) = some 1 := by kernel_rfl

theorem set72 {w : World} {B n n' : Nat} {st : Nat → BitVec 32} {blk : Nat → Nat} {t : TypeId} (h : Holds w B 73 (rc st blk n) t) (m : Int) (hm : m = n') : Holds (w.setCell ⟨B, 72, none⟩ (.int .u64 m)) B 73 (rc st blk n') t := by
  subst hm
  refine (h.set 72 _).congr fun i hi => ?_
  unfold upd
  by_cases h72 : i = 72
  · subst h72; rw [if_pos rfl, rc_size]
  · rw [if_neg h72]; unfold rc
    by_cases h8 : i < 8
    · rw [if_pos h8, if_pos h8]
    · rw [if_neg h8, if_neg h8, if_pos (by omega), if_pos (by omega)]
theorem tail_list (t : ByteArray) (m : Nat) : (t.extract m t.size).data.toList = t.data.toList.drop m := by
  rw [ByteArray.data_extract, Array.toList_extract]
  simp [List.extract_eq_take_drop]
  apply List.take_of_length_le
  simp
theorem tail_size (t : ByteArray) (m : Nat) : (t.extract m t.size).size = t.size - m := by
  rw [← size_len, tail_list, List.length_drop, size_len]
structure AddRel (B : Nat) (w wr : World) (r : RS) : Prop where
  but : But B w wr
  k : HasK wr
  run : Holds wr B 73 r.cells 263

set_option maxRecDepth 100000 in
theorem add_any (B : Nat) (r0 : RS) (s : ByteArray) (w : World) (hB : B ≠ 1) (hk : HasK w) (hz : r0.size + s.size ≤ 2147483648)
    (hr : Holds w B 73 r0.cells 263) :
    Calls Tryz.prog 144 #[.pointer (some ⟨B, 0, none⟩), .string s] w fun e w' => e = .returned (.tuple #[]) ∧ AddRel B w w' (feed r0 s.data.toList) := by
  have hrel0 : AddRel B w w r0 := ⟨But.refl _ _, hk, hr⟩
  have HR := Lib.hid hrel0
  clear hrel0 hk hr
  go_enter Tryz.func144, Tryz.ntmps144
  go_wp2
  go_loopw [1] (fun x wr => ∃ (t : ByteArray) (r : RS), x = .string t ∧ feed r t.data.toList = feed r0 s.data.toList ∧ r.size + t.size = r0.size + s.size ∧ AddRel B w wr r) (fun x _ => strLen x)
  case atStart => exact ⟨s, r0, rfl, rfl, rfl, HR.out⟩
  case round =>
    obtain ⟨t, r, rfl, hf, hs, ha⟩ := hrel
    have HF := Lib.hid hf
    have HS := Lib.hid hs
    have HA := Lib.hid ha
    have hb : r.size + t.size ≤ 2147483648 := by omega
    clear hf hs ha
    by_cases h0 : t.size = 0
    · go_wp2
      go_end0
      refine ⟨rfl, ?_⟩
      rw [← HF.out, feed_none r _ (by rw [size_len]; exact h0)]
      exact HA.out
    · have c72 : wr.cell? ⟨B, 72, none⟩ = some (.int .u64 (r.size : Int)) := by
        have := HA.out.run.cell 72 (by omega)
        rw [this]; exact congrArg some (rc_size _ _ _)
      have hsl := fun wx => sliceAt_l (P := Tryz.prog) 261 5 64 Tryz.underlying261 size8 B 8 (r.size % 64) (by omega) .u64 ((r.size : Int).tmod 64) (by rw [Int.tmod_eq_emod_of_nonneg (by omega)]; omega) wx
      obtain ⟨m, hm⟩ : ∃ m, min t.size (64 - r.size % 64) = m := ⟨_, rfl⟩
      have hm1 : m ≤ t.size := by omega
      have hm2 : 0 < m := by omega
      have hm3 : r.size % 64 + m ≤ 64 := by omega
      have HM := Lib.hid hm
      clear hm
      have hlen : (t.data.toList.take m).length = m := by rw [List.length_take, size_len]; omega
      have hover : ∀ i, i < 73 → over r.cells (8 + r.size % 64) (bcells (t.data.toList.take m)) i = rc r.st (lay r.blk (r.size % 64) (t.data.toList.take m)) r.size i := fun i _ => over_rc _ _ _ _ _ (by rw [hlen]; exact hm3) i
      have HLEN := Lib.hid hlen
      have HOVER := Lib.hid hover
      clear hlen hover
      go_wp2
      go_region_law (refine step_copy_text rfl (.tmp 16) (.tmp 17) 118 9 rfl 5 Tryz.underlying118 info8 B 73 r.cells 263 (show Holds _ _ _ _ _ from HA.out.run) (8 + r.size % 64) (64 - r.size % 64) (64 - r.size % 64) t rfl rfl m HM.out (by omega) _ HOVER.out ?_; intro w2 hb2 hh2)
      have d72 : w2.cell? ⟨B, 72, none⟩ = some (.int .u64 (r.size : Int)) := by
        have := hh2.out.cell 72 (by omega)
        rw [this]; exact congrArg some (rc_size _ _ _)
      have f72 := hh2.out.free 72
      have hk2 : HasK w2 := HasK.but (w := wr.drew) (w' := w2) HA.out.k hb2.out (fun e => hB e.symm)
      have HK2 := Lib.hid hk2
      clear hsl c72 hk2
      have hsum : ((r.size : Int) + (m : Int)) = ((r.size + m : Nat) : Int) := by omega
      have h3 := set72 (n' := r.size + m) hh2.out ((r.size : Int) + (m : Int)) hsum
      have HSUM := Lib.hid hsum
      have H3 := Lib.hid h3
      clear hsum h3
      have hpiece := feed_piece (t.data.toList.take m) r (by intro e; rw [e] at HLEN; have := HLEN.out; simp at this; omega) (by rw [HLEN.out]; exact hm3)
      rw [HLEN.out] at hpiece
      have hdrop : feed (feed r (t.data.toList.take m)) (t.extract m t.size).data.toList = feed r0 s.data.toList := by
        rw [tail_list, ← feed_append, List.take_append_drop]; exact HF.out
      have HP := Lib.hid hpiece
      have HD := Lib.hid hdrop
      clear hpiece hdrop
      cases hq : (((r.size : Int) + (m : Int)) % 64 == 0)
      · go_wp2
        go_roundw
        case rel =>
          refine ⟨_, _, rfl, HD.out, by rw [feed_size, HLEN.out, tail_size]; have := HS.out; omega, ?_⟩
          have hn : ¬ (r.size + m) % 64 = 0 := by
            have := beq_eq_false_iff_ne.1 hq; omega
          rw [HP.out]; simp only [hn, if_false]
          exact ⟨(HA.out.but.drew.trans hb2.out).set 72 _, HK2.out.but ((But.refl B w2).set 72 _) (fun e => hB e.symm), H3.out⟩
        case measure => simp only [strLen, tail_size]; omega
      · have hn : (r.size + m) % 64 = 0 := by
          have := beq_iff_eq.1 hq; omega
        have HN := Lib.hid hn
        clear hn
        go_wp2_with fail
        refine (mix_any B r.st _ (r.size + m) _ (HK2.out.but ((But.refl B w2).set 72 _) (fun e => hB e.symm)) H3.out).mono ?_
        rintro e w3 ⟨rfl, hb3, hh3⟩
        have HB3 := Lib.hid hb3
        have HH3 := Lib.hid hh3
        clear hb3 hh3
        go_wp2
        go_roundw
        case rel =>
          refine ⟨_, _, rfl, HD.out, by rw [feed_size, HLEN.out, tail_size]; have := HS.out; omega, ?_⟩
          rw [HP.out]; simp only [HN.out, if_true]
          exact ⟨((HA.out.but.drew.trans hb2.out).set 72 _).trans HB3.out, (HK2.out.but ((But.refl B w2).set 72 _) (fun e => hB e.symm)).but HB3.out (fun e => hB e.symm), HH3.out⟩
        case measure => simp only [strLen, tail_size]; omega
end Go.Proofs.YtgjmbokfenpefaaGreatDoor
/- eightBytes, and Num. -/
namespace Go.Proofs.YtgjmbokfenpefaaGreatDoor
open Go.RowKit

/-- The eight bytes of a number below 2^64, the greatest first. -/
def be8 (n : Nat) : List UInt8 := (List.range 8).map fun i => UInt8.ofNat (n / 2 ^ (8 * (7 - i)))
theorem be8_length (n : Nat) : (be8 n).length = 8 := by simp [be8]
theorem be8_get (n i : Nat) (h : i < 8) : (be8 n).getD i 0 = UInt8.ofNat (n / 2 ^ (8 * (7 - i))) := by simp [be8, List.getD_eq_getElem?_getD, h]
def efill (n k : Nat) : Nat → Value := fun i => if 8 - k ≤ i then .int .u8 ((UInt8.ofNat (n / 2 ^ (8 * (7 - i)))).toNat : Int) else .int .u8 0

theorem eight_any (n : Nat) (w : World) :
    Calls Tryz.prog 200 #[.int .u64 (n : Int)] w fun e w' => e = .returned (.string (txt (be8 n))) ∧ Below w.heap.size w w' := by
  go_enter Tryz.func200, Tryz.ntmps200
  go_wp2
  go_loopw [5] (fun i wr => ∃ k : Nat, k ≤ 8 ∧ i = .int .i64 k ∧ Below w.heap.size w wr ∧ Holds wr w.heap.size 8 (efill n k) 357) (fun i _ => 8 - (intOf i).toNat)
  case atStart => exact ⟨0, by omega, rfl, (Below.refl _ _).alloc (Nat.le_refl _) _, (Holds.new w 8 (fun _ => .int .u8 0) 357).congr fun i hi => by unfold efill; rw [if_neg (by omega)]⟩
  case round =>
    obtain ⟨k, hk, rfl, hb, hh⟩ := hrel
    have HB := Lib.hid hb
    have HH := Lib.hid hh
    clear hb hh
    by_cases hlt : k < 8
    · have c := HH.out.cell (7 - k) (by omega)
      have f := HH.out.free (7 - k)
      go_wp2
      go_roundw
      case rel =>
        have ev : (n : Int) / 2 ^ (8 * k) % (256 : Int) = ((UInt8.ofNat (n / 2 ^ (8 * (7 - (7 - k))))).toNat : Int) := by
          rw [show 7 - (7 - k) = k from by omega, UInt8.toNat_ofNat']
          simp
        refine ⟨k + 1, by omega, by go_num, HB.out.setCell (Nat.le_refl _) _, (HH.out.set (7 - k) _).congr fun i hi => ?_⟩
        rw [ev]
        unfold upd efill
        by_cases h : i = 7 - k
        · subst h; rw [if_pos rfl, if_pos (by omega)]
        · rw [if_neg h]
          by_cases h2 : 8 - k ≤ i
          · rw [if_pos h2, if_pos (by omega)]
          · rw [if_neg h2, if_neg (by omega)]
      case measure => simp [intOf]; omega
    · obtain rfl : k = 8 := by omega
      have hcv := run_conv_text (P := Tryz.prog) HH.out 118 9 5 Tryz.underlying118 Tryz.underlying5 Tryz.underlying9 (be8 n) 0 8 8 (be8_length n) (by omega) (fun i hi => by
        rw [be8_get n i hi]; unfold efill; rw [if_pos (by omega), Nat.zero_add])
      go_wp2
      go_ret
      exact ⟨rfl, HB.out⟩

/-- A number's bytes. -/
def num8 (n : Int) : List UInt8 := be8 (n % 18446744073709551616).toNat
theorem wrap_u64 (n : Int) : IntKind.u64.wrap n = n % 18446744073709551616 := by simp [IntKind.wrap, IntKind.bits, IntKind.signed]
theorem num_any (n : Int) (w : World) :
    Calls Tryz.prog 145 #[.int .i64 n] w fun e w' => e = .returned (.string (txt (num8 n))) ∧ Below w.heap.size w w' := by
  obtain ⟨m, hm⟩ : ∃ m : Nat, (n % 18446744073709551616) = m := ⟨(n % 18446744073709551616).toNat, by omega⟩
  have hw : IntKind.u64.wrap n = m := by rw [wrap_u64, hm]
  have e : num8 n = be8 m := by unfold num8; rw [hm]; rfl
  rw [e]
  clear hm e
  go_enter Tryz.func145, Tryz.ntmps145
  go_wp2_with fail
  refine (eight_any m _).mono ?_
  rintro e w1 ⟨rfl, hb⟩
  have HB := Lib.hid hb
  clear hb
  go_wp2
  go_ret
  exact ⟨rfl, HB.out⟩
end Go.Proofs.YtgjmbokfenpefaaGreatDoor
/- What the padding does to a running sum. No program is walked here. -/
namespace Go.Proofs.YtgjmbokfenpefaaGreatDoor
open Go.RowKit

/-- A state's words as bytes, the greatest of each first. -/
def sumText (st : Nat → BitVec 32) : List UInt8 := (List.range 32).map fun i => UInt8.ofNat ((st (i / 4)).toNat / 2 ^ (24 - 8 * (i % 4)))
theorem sumText_length (st : Nat → BitVec 32) : (sumText st).length = 32 := by simp [sumText]
theorem sumText_get (st : Nat → BitVec 32) (i : Nat) (h : i < 32) : (sumText st).getD i 0 = UInt8.ofNat ((st (i / 4)).toNat / 2 ^ (24 - 8 * (i % 4))) := by simp [sumText, List.getD_eq_getElem?_getD, h]
/-- The state ahead of all text. -/
def ivTab : List Nat := [1779033703, 3144134277, 1013904242, 2773480762, 1359893119, 2600822924, 528734635, 1541459225]
def iv (i : Nat) : BitVec 32 := BitVec.ofNat 32 (ivTab.getD i 0)
def rs0 : RS := { st := iv, blk := fun _ => 0, size := 0 }
/-- The padding: a bit of 1, noughts, how many bits there were. -/
def padding (n : Nat) : List UInt8 := 0x80 :: (List.replicate ((119 - n % 64) % 64) 0 ++ be8 (8 * n % 18446744073709551616))
def sumOf (l : List UInt8) : List UInt8 := sumText (feed rs0 (l ++ padding l.length)).st


theorem wordOf_congr {f g : Nat → Nat} (h : ∀ i, i < 64 → f i = g i) (k : Nat) (hk : k < 16) (j : Nat) (hj : j ≤ 4) : wordOf f k j = wordOf g k j := by
  induction j with
  | zero => rfl
  | succ j ih => unfold wordOf; rw [ih (by omega), h (4 * k + j) (by omega)]
theorem wfill_congr {f g : Nat → Nat} (h : ∀ i, i < 64 → f i = g i) : wfill f 16 0 = wfill g 16 0 := by
  funext i; unfold wfill
  by_cases hi : i < 16
  · rw [if_pos hi, if_pos hi, wordOf_congr h i hi 4 (by omega)]
  · rw [if_neg hi, if_neg hi]; rfl
theorem wext_congr {f g : Nat → Nat} (h : ∀ i, i < 64 → f i = g i) (n : Nat) : wext f n = wext g n := by
  induction n with
  | zero => exact wfill_congr h
  | succ n ih => unfold wext; rw [ih]
theorem mixed_congr {f g : Nat → Nat} (h : ∀ i, i < 64 → f i = g i) (st : Nat → BitVec 32) : mixed st f = mixed st g := by
  funext i; unfold mixed; rw [wext_congr h]

def zeros (n : Nat) : List UInt8 := List.replicate n 0
theorem zeros_length (n : Nat) : (zeros n).length = n := by simp [zeros]
theorem zeros_get (n i : Nat) : ((zeros n).getD i 0).toNat = 0 := by
  unfold zeros; rw [List.getD_eq_getElem?_getD]
  by_cases h : i < n
  · simp [h]
  · rw [List.getElem?_eq_none (by simp; omega)]; rfl
theorem lay_nil (blk : Nat → Nat) (p : Nat) : lay blk p [] = blk := by funext i; unfold lay; rw [if_neg (by simp)]

/-- The state behind the padding, as the program goes about it: from place p of the block on noughts; where there is no room for the size, a block of its own. -/
def padded (st : Nat → BitVec 32) (blk : Nat → Nat) (p n : Nat) : Nat → BitVec 32 :=
  if 56 < p then mixed (mixed st (lay blk p (zeros (64 - p)))) (lay (lay (lay blk p (zeros (64 - p))) 0 (zeros 64)) 56 (be8 n))
  else mixed st (lay (lay blk p (zeros (64 - p))) 56 (be8 n))

theorem feed_zeros (r : RS) (h : r.size % 64 ≤ 56) (n : Nat) : (feed (feed r (zeros (56 - r.size % 64))) (be8 n)).st = mixed r.st (lay (lay r.blk (r.size % 64) (zeros (64 - r.size % 64))) 56 (be8 n)) := by
  have e1 : feed r (zeros (56 - r.size % 64)) = { st := r.st, blk := lay r.blk (r.size % 64) (zeros (56 - r.size % 64)), size := r.size + (56 - r.size % 64) } := by
    by_cases h0 : r.size % 64 = 56
    · rw [h0]; show feed r [] = _; rw [feed_nil]; show r = { st := r.st, blk := lay r.blk 56 [], size := r.size + 0 }; rw [lay_nil]; rfl
    · rw [feed_piece _ r (by intro e; have := congrArg List.length e; rw [zeros_length] at this; simp at this; omega) (by rw [zeros_length]; omega)]
      rw [zeros_length, if_neg (by omega)]
  rw [e1]
  have e2 := feed_piece (be8 n) { st := r.st, blk := lay r.blk (r.size % 64) (zeros (56 - r.size % 64)), size := r.size + (56 - r.size % 64) } (by intro e; have := congrArg List.length e; rw [be8_length] at this; simp at this) (by rw [be8_length]; show (r.size + (56 - r.size % 64)) % 64 + 8 ≤ 64; omega)
  rw [e2]
  simp only [be8_length]
  rw [if_pos (by omega), show (r.size + (56 - r.size % 64)) % 64 = 56 from by omega]
  apply mixed_congr
  intro i hi
  unfold lay
  rw [be8_length, zeros_length, zeros_length]
  by_cases h5 : 56 ≤ i
  · have a1 : 56 ≤ i ∧ i < 56 + 8 := by omega
    rw [if_pos a1, if_pos a1]
  · have a1 : ¬ (56 ≤ i ∧ i < 56 + 8) := by omega
    rw [if_neg a1, if_neg a1]
    by_cases h6 : r.size % 64 ≤ i
    · have a2 : r.size % 64 ≤ i ∧ i < r.size % 64 + (56 - r.size % 64) := by omega
      have a3 : r.size % 64 ≤ i ∧ i < r.size % 64 + (64 - r.size % 64) := by omega
      rw [if_pos a2, if_pos a3, zeros_get, zeros_get]
    · have a2 : ¬ (r.size % 64 ≤ i ∧ i < r.size % 64 + (56 - r.size % 64)) := by omega
      have a3 : ¬ (r.size % 64 ≤ i ∧ i < r.size % 64 + (64 - r.size % 64)) := by omega
      rw [if_neg a2, if_neg a3]
theorem feed_padding (r : RS) : (feed r (padding r.size)).st = padded (feed r [0x80]).st (feed r [0x80]).blk ((r.size + 1) % 64) (8 * r.size % 18446744073709551616) := by
  obtain ⟨q, hq⟩ : ∃ q, feed r [0x80] = q := ⟨_, rfl⟩
  have hs : q.size = r.size + 1 := by rw [← hq, feed_size]; rfl
  have e : padding r.size = [0x80] ++ (zeros ((119 - r.size % 64) % 64) ++ be8 (8 * r.size % 18446744073709551616)) := rfl
  rw [e, feed_append, feed_append, hq, ← hs]
  unfold padded
  by_cases hp : 56 < q.size % 64
  · rw [if_pos hp]
    have ez : zeros ((119 - r.size % 64) % 64) = zeros (64 - q.size % 64) ++ zeros 56 := by
      unfold zeros; rw [List.replicate_append_replicate]; congr 1; omega
    rw [ez, feed_append]
    have e1 := feed_piece (zeros (64 - q.size % 64)) q (by intro e; have := congrArg List.length e; rw [zeros_length] at this; simp at this; omega) (by rw [zeros_length]; omega)
    rw [zeros_length, if_pos (by omega)] at e1
    rw [e1]
    have h := feed_zeros { st := mixed q.st (lay q.blk (q.size % 64) (zeros (64 - q.size % 64))), blk := lay q.blk (q.size % 64) (zeros (64 - q.size % 64)), size := q.size + (64 - q.size % 64) } (by show (q.size + (64 - q.size % 64)) % 64 ≤ 56; omega) (8 * r.size % 18446744073709551616)
    simp only [show (q.size + (64 - q.size % 64)) % 64 = 0 from by omega] at h
    exact h
  · rw [if_neg hp]
    have ez : (119 - r.size % 64) % 64 = 56 - q.size % 64 := by omega
    rw [ez]
    exact feed_zeros q (by omega) _
theorem over_zero (st : Nat → BitVec 32) (blk : Nat → Nat) (size p n : Nat) (hl : p + n ≤ 64) (i : Nat) : over (rc st blk size) (8 + p) (List.replicate n (.int .u8 0)) i = rc st (lay blk p (zeros n)) size i := by
  rw [← over_rc st blk size p (zeros n) (by rw [zeros_length]; exact hl) i]
  congr 1
  unfold bcells zeros
  simp
end Go.Proofs.YtgjmbokfenpefaaGreatDoor
