/- lain: a fact: where a name lies. -/
import Derived.Test.YthbfmdgnhipobaaDoorOf
import Derived.Test.YthbfmdgnhipobaaDoorCom
namespace Go.Proofs.YthbfmdgnhipobaaDoor
open Go.RowKit

theorem below_drew {B : Nat} {u w : World} (h : Below B u w) (n : Nat) : Below B u (w.drewN n) := ⟨h.os, h.tape, h.output, h.size, h.block⟩
theorem markOf_size (kind : UInt8) (parts : List ByteArray) : (markOf kind parts).size = 16 := by
  unfold markOf
  rw [txt_size, List.length_take]
  unfold sumOf
  rw [sumText_length]
  rfl
def annB : ByteArray := ⟨#[97, 110, 110]⟩
theorem annOk : nameOk annB.data.toList = true := by decide +kernel
theorem AnnNo : nameOk (⟨#[65, 110, 110]⟩ : ByteArray).data.toList = false := by decide +kernel
theorem ofAns_ann : ofAns annB = (markOf 105 [annB], 0) := by unfold ofAns; rw [if_pos annOk]
/-- A byte ahead of all but the first of a mark. -/
def ahead (c : UInt8) (m : ByteArray) : ByteArray := ⟨#[c]⟩ ++ m.extract 1 16
theorem ahead_list (c : UInt8) (m : ByteArray) (h : m.size = 16) : (ahead c m).data.toList = c :: m.data.toList.drop 1 := by
  unfold ahead
  rw [ByteArray.data_append, Array.toList_append, ByteArray.data_extract, Array.toList_extract]
  simp [List.extract_eq_take_drop]
  have : m.data.size = 16 := h
  rw [List.take_of_length_le]
  simp; omega
theorem ahead_size (c : UInt8) (m : ByteArray) (h : m.size = 16) : (ahead c m).size = 16 := by
  rw [← size_len, ahead_list _ _ h]
  simp
  have : m.data.size = 16 := h
  omega
theorem bitAns_ahead (m : ByteArray) (h : m.size = 16) : bitAns (ahead 0x80 m) 0 = (1, 0) := by
  unfold bitAns
  rw [if_pos (ahead_size _ _ h), if_pos (by omega), ahead_list _ _ h]
  rw [show Int.toNat 0 = 0 from rfl, bitOf_head _ _ _ (by omega)]
  rfl
theorem comAns_ahead (m : ByteArray) (h : m.size = 16) : comAns (ahead 0x80 m) (ahead 0x90 m) = (3, 0) := by
  unfold comAns
  rw [if_pos ⟨ahead_size _ _ h, ahead_size _ _ h⟩, ahead_list _ _ h, ahead_list _ _ h, common_three]
  rfl
set_option maxRecDepth 100000 in
theorem lain_any (w : World) (hk : HasK w) :
    Calls Tryd.prog 16 #[] w fun e w' => e = .returned (.bool true) ∧ Below w.heap.size w w' := by
  obtain ⟨m, hm⟩ : ∃ m, markOf 105 [annB] = m := ⟨_, rfl⟩
  have hms : m.size = 16 := by rw [← hm, markOf_size]
  have HA := Lib.hid (show ofAns annB = (m, 0) by rw [ofAns_ann, hm])
  have HB := Lib.hid (bitAns_ahead m hms)
  have HC := Lib.hid (comAns_ahead m hms)
  have HM := Lib.hid hm
  have HK := Lib.hid hk
  have hm1 : 1 ≤ m.size := by omega
  have HN := Lib.hid AnnNo
  clear hm hk
  go_enter Tryd.func16, Tryd.ntmps16
  go_wp2_with fail
  refine (of_is annB m 0 _ HK.out HA.out).mono ?_
  rintro e w1 ⟨rfl, hb1⟩
  have HB1 := Lib.hid hb1
  clear hb1
  rw [show errOf 0 = .nilIface from rfl]
  go_wp2_with fail
  refine (mark_any 105 [annB] (some ⟨w1.heap.size, 0, none⟩) 1 _ ((HK.out.below HB1.out HK.out.lt).alloc _) (by decide) (by simp) (one_part annB w1)).mono ?_
  rintro e w2 ⟨rfl, hb2⟩
  rw [HM.out]
  have HB2 := Lib.hid (HB1.out.trans (((Below.refl w1.heap.size w1).alloc (Nat.le_refl _) (.cells #[.string annB] 9)).mono HB1.out.size |>.trans (hb2.mono (Nat.le_trans HB1.out.size (by simp)))))
  clear hb2
  go_wp2_with fail
  refine (name_any _ _).mono ?_
  rintro e w3 ⟨rfl, rfl⟩
  rw [HN.out]
  go_wp2_with fail
  refine (ixBit_is (ahead 0x80 m) 0 1 0 _ HB.out).mono ?_
  rintro e w4 ⟨rfl, rfl⟩
  rw [show errOf 0 = .nilIface from rfl]
  go_wp2_with fail
  go_quiet ((go_at_call 15; exact Calls.quiet_of_same (ixCommon_is (ahead 0x80 m) (ahead 0x90 m) 3 0 _ HC.out)))
  rw [show errOf 0 = .nilIface from rfl]
  go_wp2
  go_ret
  exact ⟨rfl, below_drew HB2.out _⟩
end Go.Proofs.YthbfmdgnhipobaaDoor
