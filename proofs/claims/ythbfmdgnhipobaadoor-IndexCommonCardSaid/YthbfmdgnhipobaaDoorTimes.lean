/- The document's numbers of rounds: times, above, root. -/
import Derived.Test.YthbfmdgnhipobaaDoorRow2
import Derived.Test.YthbfmdgnhipobaaDoorProg
namespace Go.Proofs.YthbfmdgnhipobaaDoor
open Go.RowKit

def u64s (l : List Nat) : List Value := l.map fun (n : Nat) => Value.int .u64 (n : Int)
theorem u64s_length (l : List Nat) : (u64s l).length = l.length := by simp [u64s]
theorem u64s_append (l m : List Nat) : u64s (l ++ m) = u64s l ++ u64s m := by simp [u64s]
theorem u64s_get (l : List Nat) (i : Nat) (h : i < l.length) : (u64s l)[i]? = some (.int .u64 ((l.getD i 0 : Nat) : Int)) := by simp [u64s, List.getD_eq_getElem?_getD, h]
theorem infoU64 : (Tryd.prog.info? 50).map (fun i => (i.zero, i.size, i.bytes)) = some (some (.int .u64 0), 1, 8) := by kernel_rfl

/-- What is left of a number, digit by digit of 2^16. -/
def digs : Nat → Nat → List Nat
  | 0, _ => []
  | f + 1, c => if c = 0 then [] else (c % 65536) :: digs f (c / 65536)
def timesL (x : Nat) : List Nat → Nat → List Nat
  | [], c => digs 4 c
  | d :: l, c => ((c + d * x) % 65536) :: timesL x l ((c + d * x) / 65536)
theorem digs_step (f c : Nat) (h : 0 < c) : digs (f + 1) c = (c % 65536) :: digs f (c / 65536) := by
  show (if c = 0 then [] else _) = _; rw [if_neg (by omega)]
theorem digs_zero (f : Nat) : digs f 0 = [] := by cases f <;> simp [digs]
/-- Digits of 2^16. -/
def Small (l : List Nat) : Prop := ∀ i, l.getD i 0 < 65536
def sliceN : Value → Nat | .slice _ n _ => n | _ => 0

structure TimesRel (N : Nat) (w wr : World) (v : Value) (done : List Nat) : Prop where
  below : Below N w wr
  row : Row wr N 1 v done.length (u64s done)
theorem TimesRel.grow {N : Nat} {w wr w' : World} {v v' : Value} {l : List Nat} {c : Nat} (h : TimesRel N w wr v l) (hN : N ≤ w.heap.size)
    (hr : Row w' N 1 v' (l.length + 1) (u64s l ++ [.int .u64 (c : Int)])) (hg : wr.grownBy w' v.ownBlock) : TimesRel N w w' v' (l ++ [c]) :=
  ⟨grown_below h.below h.row hg (Nat.le_refl _) (Nat.le_trans hN h.below.size), by simpa [u64s] using hr⟩

set_option maxRecDepth 100000 in
theorem times_any (vs : List Nat) (p : Option Addr) (cap x : Nat) (w : World) (hx : x ≤ 1099511627776) (hsm : Small vs) (hn : vs.length ≤ 1000)
    (hc : ∀ i, i < vs.length → ∃ g, p = some ⟨g, 0, none⟩ ∧ g < w.heap.size ∧ w.cell? ⟨g, i, none⟩ = some (.int .u64 ((vs.getD i 0 : Nat) : Int))) :
    Calls Tryd.prog 37 #[.slice p vs.length cap, .int .u64 (x : Int)] w fun e w' => ∃ v, e = .returned v ∧ TimesRel w.heap.size w w' v (timesL x vs 0) := by
  have HC := Lib.hid hc
  have HS := Lib.hid hsm
  clear hc hsm
  go_enter Tryd.func37, Tryd.ntmps37
  go_wp2
  go_loopw [5, 6, 7] (fun out c i wr => ∃ (cn k f : Nat) (done : List Nat), c = .int .u64 (cn : Int) ∧ i = .int .i64 (k : Int) ∧ cn < 4398046511104 ∧ k ≤ vs.length + 4 ∧
      (k < vs.length → done ++ timesL x (vs.drop k) cn = timesL x vs 0) ∧ (vs.length ≤ k → f + k = vs.length + 4 ∧ cn < 65536 ^ f ∧ done ++ digs f cn = timesL x vs 0) ∧ done.length = k ∧ TimesRel w.heap.size w wr out done)
    (fun _ _ i _ => vs.length + 4 - (intOf i).toNat)
  case atStart =>
    refine ⟨0, 0, 4 + vs.length, [], rfl, rfl, by omega, by omega, fun _ => rfl, fun h => ?_, rfl, ⟨Below.refl _ _, show Row w w.heap.size 1 (.slice none 0 0) 0 [] from Row.nil _ _ _⟩⟩
    have h0 : vs.length = 0 := by omega
    have e : vs = [] := List.eq_nil_of_length_eq_zero h0
    rw [h0, e]; exact ⟨rfl, by omega, rfl⟩
  case round =>
    obtain ⟨cn, k, f, done, rfl, rfl, hcn, hk, h1, h2, hdl, hr⟩ := hrel
    have H1 := Lib.hid h1
    have H2 := Lib.hid h2
    have HR := Lib.hid hr
    clear h1 h2 hr
    by_cases hlt : k < vs.length
    · obtain ⟨g, rfl, hg, hcell⟩ := HC.out k hlt
      have hc1 : wr.cell? ⟨g, k, none⟩ = some (.int .u64 ((vs.getD k 0 : Nat) : Int)) := by rw [HR.out.below.cell hg]; exact hcell
      have hd := HS.out k
      generalize hdk : vs.getD k 0 = d at hc1 hd
      obtain ⟨m, hm⟩ : ∃ m : Nat, d * x = m := ⟨_, rfl⟩
      have hmb : m ≤ 72056494526300160 := by
        rw [← hm]
        exact Nat.le_trans (Nat.mul_le_mul (show d ≤ 65535 by omega) hx) (by omega)
      have hmul : IntKind.u64.wrap ((d : Int) * (x : Int)) = (m : Int) := by
        rw [← Int.natCast_mul, hm]; simp [IntKind.wrap, IntKind.bits, IntKind.signed]; omega
      have HM := Lib.hid hm
      have HD := Lib.hid hdk
      have HDL := Lib.hid hdl
      clear hm hcell hdk hdl
      go_wp2_with (at_builtin; refine wpList_append_one rfl (.tmp 32) (.tmp 35) 76 rfl 50 Tryd.underlying76 (.int .u64 0) 8 infoU64 rfl (by decide) w.heap.size _ done.length _ rfl HR.out.row HR.out.below.size (by have := HDL.out; omega) _ rfl rfl 50 ?_; intro v3 w3 hr3 hg3)
      go_wp2
      go_roundw
      case rel =>
        have hgr := HR.out.grow (c := (cn + m) % 65536) (Nat.le_refl _) (by have := hr3.out; rwa [show ((cn : Int) + (m : Int)) % 65536 = (((cn + m) % 65536 : Nat) : Int) from by omega] at this) hg3.out
        have hlist := H1.out hlt
        have hdrop : vs.drop k = d :: vs.drop (k + 1) := by
          rw [List.drop_eq_getElem_cons hlt]; congr 1
          have := HD.out; rw [List.getD_eq_getElem?_getD, List.getElem?_eq_getElem hlt] at this; exact this
        rw [hdrop] at hlist
        simp only [timesL, HM.out] at hlist
        refine ⟨(cn + m) / 65536, k + 1, vs.length + 4 - (k + 1), done ++ [(cn + m) % 65536], by rw [show ((cn : Int) + (m : Int)) / 65536 = (((cn + m) / 65536 : Nat) : Int) from by omega], by go_num, by omega, by omega, fun h => ?_, fun h => ?_, by rw [List.length_append, HDL.out]; rfl, hgr⟩
        · rw [List.append_assoc]; exact hlist
        · have e : k + 1 = vs.length := by omega
          rw [List.drop_of_length_le (by omega)] at hlist
          refine ⟨by omega, by rw [show vs.length + 4 - (k + 1) = 4 from by omega]; omega, ?_⟩
          rw [List.append_assoc, show vs.length + 4 - (k + 1) = 4 from by omega]; exact hlist
      case measure => simp [intOf]; omega
    · by_cases hc0 : 0 < cn
      · obtain ⟨h2a, h2b, h2c⟩ := H2.out (by omega)
        obtain ⟨f', rfl⟩ : ∃ f', f = f' + 1 := by
          cases f with
          | zero => simp at h2b; omega
          | succ f => exact ⟨f, rfl⟩
        have hkb : k < vs.length + 4 := by omega
        have H2B := Lib.hid h2b
        have H2C := Lib.hid h2c
        have H2A := Lib.hid h2a
        have HDL := Lib.hid hdl
        clear h2a h2b h2c hdl
        go_wp2_with (at_builtin; refine wpList_append_one rfl (.tmp 32) (.tmp 35) 76 rfl 50 Tryd.underlying76 (.int .u64 0) 8 infoU64 rfl (by decide) w.heap.size _ done.length _ rfl HR.out.row HR.out.below.size (by have := HDL.out; omega) _ rfl rfl 50 ?_; intro v3 w3 hr3 hg3)
        go_wp2
        go_roundw
        case rel =>
          have hgr := HR.out.grow (c := cn % 65536) (Nat.le_refl _) (by have := hr3.out; rwa [show (cn : Int) % 65536 = ((cn % 65536 : Nat) : Int) from by omega] at this) hg3.out
          refine ⟨cn / 65536, k + 1, f', done ++ [cn % 65536], by rw [show (cn : Int) / 65536 = ((cn / 65536 : Nat) : Int) from by omega], by go_num, by omega, by omega, fun h => by omega, fun h => ⟨by have := H2A.out; omega, ?_, ?_⟩, by rw [List.length_append, HDL.out]; rfl, hgr⟩
          · have := H2B.out
            rw [Nat.pow_succ] at this
            exact Nat.div_lt_of_lt_mul (by rw [Nat.mul_comm]; exact this)
          · rw [List.append_assoc]
            have := H2C.out
            rw [digs_step f' cn hc0] at this
            exact this
        case measure => simp [intOf]; omega
      · obtain rfl : cn = 0 := by omega
        obtain ⟨h2a, h2b, h2c⟩ := H2.out (by omega)
        have H2C := Lib.hid h2c
        clear h2a h2b h2c hdl
        go_wp2
        go_ret
        refine ⟨_, rfl, ?_⟩
        have := H2C.out
        rw [digs_zero, List.append_nil] at this
        rw [← this]
        exact HR.out
end Go.Proofs.YthbfmdgnhipobaaDoor
