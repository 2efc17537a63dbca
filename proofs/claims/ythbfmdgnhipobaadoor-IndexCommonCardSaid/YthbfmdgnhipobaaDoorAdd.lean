/- (*running).add: a piece of text is taken in. -/
import Derived.Test.YthbfmdgnhipobaaDoorFeed
namespace Go.Proofs.YthbfmdgnhipobaaDoor
open Go.RowKit

def strLen : Value → Nat | .string s => s.size | _ => 0
theorem size8 (w : World) : (Go.sizeOf 5).run Tryd.prog w = .ok 1 w := by kernel_rfl
theorem info8 : (Tryd.prog.info? 5).map (·.size) = some 1 := by kernel_rfl

theorem set72 {w : World} {B n n' : Nat} {st : Nat → BitVec 32} {blk : Nat → Nat} {t : TypeId} (h : Holds w B 73 (rc st blk n) t) (m : Int) (hm : m = n') : Holds (w.setCell ⟨B, 72, none⟩ (.int .u64 m)) B 73 (rc st blk n') t := by
  subst hm
  refine (h.set 72 _).congr fun i hi => ?_
  unfold upd
  by_cases h72 : i = 72
  · subst h72; rw [if_pos rfl, rc_size]
  · rw [if_neg h72]; unfold rc
    by_cases h8 : i < 8
    · rw [if_pos h8, if_pos h8]
    · rw [if_neg h8, if_neg h8, if_pos (by omega), if_pos (by omega)]
theorem tail_list (t : ByteArray) (m : Nat) : (t.extract m t.size).data.toList = t.data.toList.drop m := by
  rw [ByteArray.data_extract, Array.toList_extract]
  simp [List.extract_eq_take_drop]
  apply List.take_of_length_le
  simp
theorem tail_size (t : ByteArray) (m : Nat) : (t.extract m t.size).size = t.size - m := by
  rw [← size_len, tail_list, List.length_drop, size_len]
structure AddRel (B : Nat) (w wr : World) (r : RS) : Prop where
  but : But B w wr
  k : HasK wr
  run : Holds wr B 73 r.cells 64

set_option maxRecDepth 100000 in
theorem add_any (B : Nat) (r0 : RS) (s : ByteArray) (w : World) (hB : B ≠ 0) (hk : HasK w) (hz : r0.size + s.size ≤ 2147483648)
    (hr : Holds w B 73 r0.cells 64) :
    Calls Tryd.prog 33 #[.pointer (some ⟨B, 0, none⟩), .string s] w fun e w' => e = .returned (.tuple #[]) ∧ AddRel B w w' (feed r0 s.data.toList) := by
  have hrel0 : AddRel B w w r0 := ⟨But.refl _ _, hk, hr⟩
  have HR := Lib.hid hrel0
  clear hrel0 hk hr
  go_enter Tryd.func33, Tryd.ntmps33
  go_wp2
  go_loopw [1] (fun x wr => ∃ (t : ByteArray) (r : RS), x = .string t ∧ feed r t.data.toList = feed r0 s.data.toList ∧ r.size + t.size = r0.size + s.size ∧ AddRel B w wr r) (fun x _ => strLen x)
  case atStart => exact ⟨s, r0, rfl, rfl, rfl, HR.out⟩
  case round =>
    obtain ⟨t, r, rfl, hf, hs, ha⟩ := hrel
    have HF := Lib.hid hf
    have HS := Lib.hid hs
    have HA := Lib.hid ha
    have hb : r.size + t.size ≤ 2147483648 := by omega
    clear hf hs ha
    by_cases h0 : t.size = 0
    · go_wp2
      go_end0
      refine ⟨rfl, ?_⟩
      rw [← HF.out, feed_none r _ (by rw [size_len]; exact h0)]
      exact HA.out
    · have c72 : wr.cell? ⟨B, 72, none⟩ = some (.int .u64 (r.size : Int)) := by
        have := HA.out.run.cell 72 (by omega)
        rw [this]; exact congrArg some (rc_size _ _ _)
      have hsl := fun wx => sliceAt_l (P := Tryd.prog) 62 5 64 Tryd.underlying62 size8 B 8 (r.size % 64) (by omega) .u64 ((r.size : Int).tmod 64) (by rw [Int.tmod_eq_emod_of_nonneg (by omega)]; omega) wx
      obtain ⟨m, hm⟩ : ∃ m, min t.size (64 - r.size % 64) = m := ⟨_, rfl⟩
      have hm1 : m ≤ t.size := by omega
      have hm2 : 0 < m := by omega
      have hm3 : r.size % 64 + m ≤ 64 := by omega
      have HM := Lib.hid hm
      clear hm
      have hlen : (t.data.toList.take m).length = m := by rw [List.length_take, size_len]; omega
      have hover : ∀ i, i < 73 → over r.cells (8 + r.size % 64) (bcells (t.data.toList.take m)) i = rc r.st (lay r.blk (r.size % 64) (t.data.toList.take m)) r.size i := fun i _ => over_rc _ _ _ _ _ (by rw [hlen]; exact hm3) i
      have HLEN := Lib.hid hlen
      have HOVER := Lib.hid hover
      clear hlen hover
      go_wp2
      go_region_law (refine step_copy_text rfl (.tmp 16) (.tmp 17) 59 9 rfl 5 Tryd.underlying59 info8 B 73 r.cells 64 (show Holds _ _ _ _ _ from HA.out.run) (8 + r.size % 64) (64 - r.size % 64) (64 - r.size % 64) t rfl rfl m HM.out (by omega) _ HOVER.out ?_; intro w2 hb2 hh2)
      have d72 : w2.cell? ⟨B, 72, none⟩ = some (.int .u64 (r.size : Int)) := by
        have := hh2.out.cell 72 (by omega)
        rw [this]; exact congrArg some (rc_size _ _ _)
      have f72 := hh2.out.free 72
      have hk2 : HasK w2 := HasK.but (w := wr.drew) (w' := w2) HA.out.k hb2.out (fun e => hB e.symm)
      have HK2 := Lib.hid hk2
      clear hsl c72 hk2
      have hsum : ((r.size : Int) + (m : Int)) = ((r.size + m : Nat) : Int) := by omega
      have h3 := set72 (n' := r.size + m) hh2.out ((r.size : Int) + (m : Int)) hsum
      have HSUM := Lib.hid hsum
      have H3 := Lib.hid h3
      clear hsum h3
      have hpiece := feed_piece (t.data.toList.take m) r (by intro e; rw [e] at HLEN; have := HLEN.out; simp at this; omega) (by rw [HLEN.out]; exact hm3)
      rw [HLEN.out] at hpiece
      have hdrop : feed (feed r (t.data.toList.take m)) (t.extract m t.size).data.toList = feed r0 s.data.toList := by
        rw [tail_list, ← feed_append, List.take_append_drop]; exact HF.out
      have HP := Lib.hid hpiece
      have HD := Lib.hid hdrop
      clear hpiece hdrop
      cases hq : (((r.size : Int) + (m : Int)) % 64 == 0)
      · go_wp2
        go_roundw
        case rel =>
          refine ⟨_, _, rfl, HD.out, by rw [feed_size, HLEN.out, tail_size]; have := HS.out; omega, ?_⟩
          have hn : ¬ (r.size + m) % 64 = 0 := by
            have := beq_eq_false_iff_ne.1 hq; omega
          rw [HP.out]; simp only [hn, if_false]
          exact ⟨(HA.out.but.drew.trans hb2.out).set 72 _, HK2.out.but ((But.refl B w2).set 72 _) (fun e => hB e.symm), H3.out⟩
        case measure => simp only [strLen, tail_size]; omega
      · have hn : (r.size + m) % 64 = 0 := by
          have := beq_iff_eq.1 hq; omega
        have HN := Lib.hid hn
        clear hn
        go_wp2_with fail
        refine (mix_any B r.st _ (r.size + m) _ (HK2.out.but ((But.refl B w2).set 72 _) (fun e => hB e.symm)) H3.out).mono ?_
        rintro e w3 ⟨rfl, hb3, hh3⟩
        have HB3 := Lib.hid hb3
        have HH3 := Lib.hid hh3
        clear hb3 hh3
        go_wp2
        go_roundw
        case rel =>
          refine ⟨_, _, rfl, HD.out, by rw [feed_size, HLEN.out, tail_size]; have := HS.out; omega, ?_⟩
          rw [HP.out]; simp only [HN.out, if_true]
          exact ⟨((HA.out.but.drew.trans hb2.out).set 72 _).trans HB3.out, (HK2.out.but ((But.refl B w2).set 72 _) (fun e => hB e.symm)).but HB3.out (fun e => hB e.symm), HH3.out⟩
        case measure => simp only [strLen, tail_size]; omega
end Go.Proofs.YthbfmdgnhipobaaDoor
