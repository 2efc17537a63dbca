/- Parts of the proof, one behind the other: PHead, PNext, QSign. -/
import Derived.Test.YtcfpmofmjnhonaaGreatDoorM10
import Derived.Test.YtcfpmofmjnhonaaGreatDoorM7
import Derived.Test.YtcfpmofmjnhonaaGreatDoorM14
/- The program's Right and Mark of heads. -/
namespace Go.Proofs.YtcfpmofmjnhonaaGreatDoor
open Go.RowKit

theorem pcIsMark_any (s : ByteArray) (w : World) : Calls Tryz.prog 190 #[.string s] w fun e w' => e = .returned (.bool (decide (s.size = 16))) ∧ w' = w := by
  by_cases h : s.size = 16
  · rw [decide_eq_true h]
    have hi : ((s.size : Int) == 16) = true := by rw [beq_iff_eq]; omega
    go_enter Tryz.func190, Tryz.ntmps190
    go_wp2
    go_ret
    exact ⟨rfl, rfl⟩
  · rw [decide_eq_false h]
    have hi : ((s.size : Int) == 16) = false := by rw [beq_eq_false_iff_ne]; omega
    go_enter Tryz.func190, Tryz.ntmps190
    go_wp2
    go_ret
    exact ⟨rfl, rfl⟩
set_option maxRecDepth 100000 in
theorem pHdRight_any (h : Hd) (w : World) :
    Calls Tryz.prog 138 #[.agg #[.int .i64 h.epoch, .string h.root, .string h.prev]] w fun e w' => e = .returned (.bool (rightHead h)) ∧ Below w.heap.size w w' := by
  have HBW := Lib.hid (alloc_below w (.cells #[.int .i64 h.epoch, .string h.root, .string h.prev] 49))
  obtain ⟨T, hT⟩ : ∃ T, rightHead h = T := ⟨_, rfl⟩
  rw [hT]
  have HT := Lib.hid hT
  clear hT
  by_cases h1 : 1 ≤ h.epoch
  · have h1' : 0 < h.epoch := by omega
    obtain ⟨E, hE⟩ : ∃ E, decide (h.root.size = 16) = E := ⟨_, rfl⟩
    obtain ⟨G, hG⟩ : ∃ G, decide (h.prev.size = 16) = G := ⟨_, rfl⟩
    have hF : T = (E && G) := by rw [← HT.out, ← hE, ← hG]; unfold rightHead; rw [decide_eq_true h1']; rfl
    subst hF
    have HE := Lib.hid hE
    have HG := Lib.hid hG
    clear hE hG h1'
    cases E
    · go_enter Tryz.func138, Tryz.ntmps138
      go_wp2_with fail
      refine (pcIsMark_any _ _).mono ?_
      rintro e w1 ⟨rfl, rfl⟩
      rw [HE.out]
      go_wp2
      go_ret
      exact ⟨rfl, HBW.out⟩
    · go_enter Tryz.func138, Tryz.ntmps138
      go_wp2_with fail
      refine (pcIsMark_any _ _).mono ?_
      rintro e w1 ⟨rfl, rfl⟩
      rw [HE.out]
      go_wp2_with fail
      refine (pcIsMark_any _ _).mono ?_
      rintro e w1 ⟨rfl, rfl⟩
      rw [HG.out]
      go_wp2
      go_ret
      exact ⟨rfl, HBW.out⟩
  · have hF : T = false := by rw [← HT.out]; unfold rightHead; rw [decide_eq_false (show ¬ 0 < h.epoch by omega)]; simp
    subst hF
    go_enter Tryz.func138, Tryz.ntmps138
    go_wp2
    go_ret
    exact ⟨rfl, HBW.out⟩
set_option maxRecDepth 100000 in
theorem pHdMark_is (h : Hd) (s : ByteArray) (n : Int) (w : World) (hk : HasK w) (hh : headMarkAns h = (s, n)) :
    Calls Tryz.prog 119 #[.agg #[.int .i64 h.epoch, .string h.root, .string h.prev]] w fun e w' => e = .returned (.tuple #[.string s, errOf n]) ∧ Below w.heap.size w w' := by
  have HB0 := Lib.hid (alloc_below w (.cells #[.int .i64 h.epoch, .string h.root, .string h.prev] 49))
  have HH0 := Lib.hid (show Holds (w.alloc (.cells #[.int .i64 h.epoch, .string h.root, .string h.prev] 49)) w.heap.size 3 (hdF h) 49 from Holds.new w 3 (hdF h) 49)
  have HR := Lib.hid (hk.below HB0.out hk.lt)
  clear hk
  have HLD0 := Lib.hid (show (w.alloc (.cells #[.int .i64 h.epoch, .string h.root, .string h.prev] 49)).cell? ⟨w.heap.size, 0, none⟩ = some (.int .i64 h.epoch) ∧ (w.alloc (.cells #[.int .i64 h.epoch, .string h.root, .string h.prev] 49)).cell? ⟨w.heap.size, 1, none⟩ = some (.string h.root) ∧ (w.alloc (.cells #[.int .i64 h.epoch, .string h.root, .string h.prev] 49)).cell? ⟨w.heap.size, 2, none⟩ = some (.string h.prev) from ⟨HH0.out.cell 0 (by omega), HH0.out.cell 1 (by omega), HH0.out.cell 2 (by omega)⟩)
  unfold headMarkAns at hh
  by_cases hk : rightHead h = true
  · rw [if_pos hk] at hh
    obtain ⟨rfl, rfl⟩ := Prod.mk.inj hh
    have HK := Lib.hid hk
    have HE0 := Lib.hid (show errOf 0 = Value.nilIface from rfl)
    clear hh hk
    rw [HE0.out]
    go_enter Tryz.func119, Tryz.ntmps119
    go_wp2_with fail
    refine (pHdRight_any h _).mono ?_
    rintro e w1 ⟨rfl, hb1⟩
    rw [HK.out]
    have HB1 := Lib.hid (HB0.out.trans (hb1.mono HB0.out.size))
    have HH1 := Lib.hid (HH0.out.below hb1 HH0.out.lt)
    have HR1 := Lib.hid (HR.out.below hb1 HR.out.lt)
    clear hb1
    have HN1 := Lib.hid HH1.out.lt
    have HC1 := Lib.hid (show w1.cell? ⟨w.heap.size, 0, none⟩ = some (.int .i64 h.epoch) ∧ w1.cell? ⟨w.heap.size, 1, none⟩ = some (.string h.root) ∧ w1.cell? ⟨w.heap.size, 2, none⟩ = some (.string h.prev) from ⟨HH1.out.cell 0 (by omega), HH1.out.cell 1 (by omega), HH1.out.cell 2 (by omega)⟩)
    go_wp2
    have HS0 := Lib.hid (show w1.cell? ⟨w.heap.size, 0, none⟩ = some (.int .i64 h.epoch) ∧ w1.cell? ⟨w.heap.size, 1, none⟩ = some (.string h.root) ∧ w1.cell? ⟨w.heap.size, 2, none⟩ = some (.string h.prev) ∧ Below w1.heap.size w1 w1.drew from ⟨HC1.out.1, HC1.out.2.1, HC1.out.2.2, (Below.refl _ _).drew⟩)
    have HKEEP := Lib.hid (show ∀ u v : World, (u.cell? ⟨w.heap.size, 0, none⟩ = some (.int .i64 h.epoch) ∧ u.cell? ⟨w.heap.size, 1, none⟩ = some (.string h.root) ∧ u.cell? ⟨w.heap.size, 2, none⟩ = some (.string h.prev) ∧ Below w1.heap.size w1 u) → Below u.heap.size u v → (v.cell? ⟨w.heap.size, 0, none⟩ = some (.int .i64 h.epoch) ∧ v.cell? ⟨w.heap.size, 1, none⟩ = some (.string h.root) ∧ v.cell? ⟨w.heap.size, 2, none⟩ = some (.string h.prev) ∧ Below w1.heap.size w1 v) from
      fun u v ⟨h0, h1, h2, hb⟩ hv => ⟨(hv.cell (Nat.lt_of_lt_of_le HN1.out hb.size)).trans h0, (hv.cell (Nat.lt_of_lt_of_le HN1.out hb.size)).trans h1, (hv.cell (Nat.lt_of_lt_of_le HN1.out hb.size)).trans h2, hb.trans (hv.mono hb.size)⟩)
    have HHOLD := Lib.hid (show ∀ u : World, (u.cell? ⟨w.heap.size, 0, none⟩ = some (.int .i64 h.epoch) ∧ u.cell? ⟨w.heap.size, 1, none⟩ = some (.string h.root) ∧ u.cell? ⟨w.heap.size, 2, none⟩ = some (.string h.prev) ∧ Below w1.heap.size w1 u) → HasK u from fun u hu => HR1.out.below hu.2.2.2 HR1.out.lt)
    have HTOT := Lib.hid (show total [txt (num8 h.epoch), h.root, h.prev] ≤ 1073741800 by obtain ⟨_, h2, h3⟩ := rightHead_facts HK.out; simp [total, num_size]; omega)
    go_region_held3 (fun w' => w'.cell? ⟨w.heap.size, 0, none⟩ = some (.int .i64 h.epoch) ∧ w'.cell? ⟨w.heap.size, 1, none⟩ = some (.string h.root) ∧ w'.cell? ⟨w.heap.size, 2, none⟩ = some (.string h.prev) ∧ Below w1.heap.size w1 w')
      (first | exact HS0.out | (refine HKEEP.out _ _ ?_ (by assumption); first | exact HS0.out | assumption | exact ⟨by assumption, by assumption, by assumption, by assumption⟩) | (refine HKEEP.out _ _ ?_ (alloc_below _ _); first | exact HS0.out | assumption | exact ⟨by assumption, by assumption, by assumption, by assumption⟩))
      (first | (go_at_call 104; refine (num_any h.epoch _).mono ?_; rintro e w2 ⟨rfl, hb2⟩) | (go_at_call 55; refine (mark_any 104 [txt (num8 h.epoch), h.root, h.prev] (some ⟨_, 0, none⟩) 3 _ (HHOLD.out _ (by assumption)) HTOT.out (by simp) (strs_new _ [txt (num8 h.epoch), h.root, h.prev] 9)).mono ?_; rintro e w2 ⟨rfl, hb2⟩))
    rename_i hheld
    have HB2 := Lib.hid (HB1.out.trans (hheld.2.2.2.mono HB1.out.size))
    clear hheld
    go_wp2
    refine bodyPost_ret (results_tmp2 rfl _ _ _) rfl ?_
    exact ⟨rfl, HB2.out⟩
  · rw [if_neg hk] at hh
    obtain ⟨rfl, rfl⟩ := Prod.mk.inj hh
    have HK := Lib.hid (show rightHead h = false by simpa using hk)
    clear hh hk
    go_enter Tryz.func119, Tryz.ntmps119
    go_wp2_with fail
    refine (pHdRight_any h _).mono ?_
    rintro e w1 ⟨rfl, hb1⟩
    rw [HK.out]
    have HB1 := Lib.hid (HB0.out.trans (hb1.mono HB0.out.size))
    clear hb1
    go_wp2
    refine bodyPost_ret (results_tmp2 rfl _ _ _) rfl ?_
    exact ⟨rfl, HB1.out⟩
end Go.Proofs.YtcfpmofmjnhonaaGreatDoor
/- The program's Next. -/
namespace Go.Proofs.YtcfpmofmjnhonaaGreatDoor
open Go.RowKit

theorem none16_is : none16 = ⟨#[0, 0, 0, 0, 0, 0, 0, 0, 0, 0, 0, 0, 0, 0, 0, 0]⟩ := by unfold none16; rfl
theorem firstHd_is (root : ByteArray) : firstHd root = ⟨1, root, ⟨#[0, 0, 0, 0, 0, 0, 0, 0, 0, 0, 0, 0, 0, 0, 0, 0]⟩⟩ := by unfold firstHd; rw [none16_is]
/-- What Next begins with: an empty head as its answer, the first head in its own variable. -/
theorem next_begin (w : World) (root : ByteArray) (t : TypeId) :
    Below w.heap.size w ((w.alloc (.cells #[.int .i64 0, .string ⟨#[]⟩, .string ⟨#[]⟩] t)).alloc (.cells #[.int .i64 1, .string root, .string ⟨#[0, 0, 0, 0, 0, 0, 0, 0, 0, 0, 0, 0, 0, 0, 0, 0]⟩] t)) ∧
    Holds ((w.alloc (.cells #[.int .i64 0, .string ⟨#[]⟩, .string ⟨#[]⟩] t)).alloc (.cells #[.int .i64 1, .string root, .string ⟨#[0, 0, 0, 0, 0, 0, 0, 0, 0, 0, 0, 0, 0, 0, 0, 0]⟩] t)) w.heap.size 3 (hdF noHd) t ∧
    Holds ((w.alloc (.cells #[.int .i64 0, .string ⟨#[]⟩, .string ⟨#[]⟩] t)).alloc (.cells #[.int .i64 1, .string root, .string ⟨#[0, 0, 0, 0, 0, 0, 0, 0, 0, 0, 0, 0, 0, 0, 0, 0]⟩] t)) (w.heap.size + 1) 3 (hdF (firstHd root)) t := by
  refine ⟨((Below.refl _ w).alloc (Nat.le_refl _) _).alloc (by simp) _, (Holds.new w 3 (hdF noHd) t).alloc _, ?_⟩
  have h := Holds.new (w.alloc (.cells #[.int .i64 0, .string ⟨#[]⟩, .string ⟨#[]⟩] t)) 3 (hdF (firstHd root)) t
  rw [World.size_alloc] at h
  rw [firstHd_is] at h ⊢
  exact h
theorem head_stored {w0 w4 : World} {rb : Nat} {t : TypeId} {x : Hd} (h : Holds w4 rb 3 (hdF x) t) (hb : Below w0.heap.size w0 w4) (hr : w0.heap.size ≤ rb) (y : Hd) :
    Holds (((w4.setCell ⟨rb, 0, none⟩ (.int .i64 y.epoch)).setCell ⟨rb, 1, none⟩ (.string y.root)).setCell ⟨rb, 2, none⟩ (.string y.prev)) rb 3 (hdF y) t ∧
    Below w0.heap.size w0 (((w4.setCell ⟨rb, 0, none⟩ (.int .i64 y.epoch)).setCell ⟨rb, 1, none⟩ (.string y.root)).setCell ⟨rb, 2, none⟩ (.string y.prev)) := by
  refine ⟨(((h.set 0 _).set 1 _).set 2 _).congr fun i hi => ?_, ((hb.setCell hr _).setCell hr _).setCell hr _⟩
  rcases (show i = 0 ∨ i = 1 ∨ i = 2 by omega) with rfl | rfl | rfl <;> simp [upd, hdF]

set_option maxHeartbeats 1000000 in
set_option maxRecDepth 100000 in
theorem pNext_good (L : List Hd) (A : Option Addr) (cap : Nat) (root : ByteArray) (y : Hd) (n : Int) (w : World) (hk : HasK w) (hl : L.length ≤ 1000000) (hm : Hds w A L) (hr : 0 < L.length → rightHead (hdAt L (L.length - 1)) = true) (h : nextAns L root = (y, n)) :
    Calls Tryz.prog 85 #[.slice A L.length cap, .string root] w fun e w' => e = .returned (.tuple #[.agg #[.int .i64 y.epoch, .string y.root, .string y.prev], errOf n]) ∧ Below w.heap.size w w' := by
  have HK := Lib.hid hk
  have HM := Lib.hid hm
  have hans := nextAns_upto (root := root) hr
  rw [h] at hans
  obtain ⟨HB2, HS2, HF2⟩ := (⟨Lib.hid (next_begin w root 49).1, Lib.hid (next_begin w root 49).2.1, Lib.hid (next_begin w root 49).2.2⟩ : Hid _ ∧ Hid _ ∧ Hid _)
  clear h hk hm
  have HE0 := Lib.hid (show errOf 0 = Value.nilIface from rfl)
  by_cases h0 : 0 < L.length
  case' neg =>
    have hz : nextUpto L root L.length = firstHd root := by unfold nextUpto; rw [if_neg (by omega)]
    rw [hz] at hans
    have h0' : ¬ (0 : Int) < (L.length : Int) := by omega
    clear hz
    generalize firstHd root = Z at hans HF2
    have HANS := Lib.hid hans
    clear hans hr h0
    go_enter Tryz.func85, Tryz.ntmps85
    have c0 := HF2.out.cell 0 (by omega)
    have c1 := HF2.out.cell 1 (by omega)
    have c2 := HF2.out.cell 2 (by omega)
    have d0 := show _ = some (Value.int .i64 Z.epoch) from c0
    have d1 := show _ = some (Value.string Z.root) from c1
    have d2 := show _ = some (Value.string Z.prev) from c2
    clear c0 c1 c2
    go_wp2_with fail
    clear d0 d1 d2
    generalize ((w.alloc (.cells #[.int .i64 0, .string ⟨#[]⟩, .string ⟨#[]⟩] 49)).alloc (.cells #[.int .i64 1, .string root, .string ⟨#[0, 0, 0, 0, 0, 0, 0, 0, 0, 0, 0, 0, 0, 0, 0, 0]⟩] 49)) = w5 at HB2 HS2 HF2
    have HB5 := HB2
    have HS5 := HS2
    have HF5 := HF2
    clear HB2 HS2 HF2
  case' pos =>
    obtain ⟨k, hk⟩ : ∃ k, k + 1 = L.length := ⟨L.length - 1, by omega⟩
    have hlt : k < L.length := by omega
    have h0' : (0 : Int) < (L.length : Int) := by omega
    have hrx : rightHead (hdAt L k) = true := by have := hr h0; rwa [show L.length - 1 = k by omega] at this
    have hz : nextUpto L root L.length = afterHd (hdAt L k) root := by rw [← hk]; exact nextUpto_last hk
    rw [hz] at hans
    have hwk : IntKind.i64.wrap ((L.length : Int) - 1) = (k : Int) := by rw [IntWalk.i64_in _ (by omega)]; omega
    have hk0 : (0 : Int) ≤ (k : Int) := by omega
    have hk1 : (k : Int) < (L.length : Int) := by omega
    obtain ⟨a, rfl, hal, x0, x1, x2⟩ := (HM.out.below HB2.out).at_ hlt
    have d1 : ((w.alloc (.cells #[.int .i64 0, .string ⟨#[]⟩, .string ⟨#[]⟩] 49)).alloc (.cells #[.int .i64 1, .string root, .string ⟨#[0, 0, 0, 0, 0, 0, 0, 0, 0, 0, 0, 0, 0, 0, 0, 0]⟩] 49)).cell? ⟨(a.add (k * 3)).block, (a.add (k * 3)).off + 1, none⟩ = some (.string (hdAt L k).root) := x1
    have d2 : ((w.alloc (.cells #[.int .i64 0, .string ⟨#[]⟩, .string ⟨#[]⟩] 49)).alloc (.cells #[.int .i64 1, .string root, .string ⟨#[0, 0, 0, 0, 0, 0, 0, 0, 0, 0, 0, 0, 0, 0, 0, 0]⟩] 49)).cell? ⟨(a.add (k * 3)).block, (a.add (k * 3)).off + 2, none⟩ = some (.string (hdAt L k).prev) := x2
    clear x1 x2 hal hz hk hr h0
    generalize hdAt L k = X at x0 d1 d2 hrx hans
    have HANS := Lib.hid hans
    have HRX := Lib.hid hrx
    have HZ := Lib.hid (show afterHd X root = ⟨wrap64 (X.epoch + 1), root, headMark X⟩ from rfl)
    have HMA := Lib.hid (show headMarkAns X = (headMark X, 0) by unfold headMarkAns; rw [if_pos hrx])
    clear hans hrx
    go_enter Tryz.func85, Tryz.ntmps85
    have HB3 := Lib.hid (HB2.out.alloc HB2.out.size (.cells #[.int .i64 X.epoch, .string X.root, .string X.prev] 49))
    have HS3 := Lib.hid (HS2.out.alloc (.cells #[.int .i64 X.epoch, .string X.root, .string X.prev] 49))
    have HF3 := Lib.hid (HF2.out.alloc (.cells #[.int .i64 X.epoch, .string X.root, .string X.prev] 49))
    have HX3 := Lib.hid (show Holds (((w.alloc (.cells #[.int .i64 0, .string ⟨#[]⟩, .string ⟨#[]⟩] 49)).alloc (.cells #[.int .i64 1, .string root, .string ⟨#[0, 0, 0, 0, 0, 0, 0, 0, 0, 0, 0, 0, 0, 0, 0, 0]⟩] 49)).alloc (.cells #[.int .i64 X.epoch, .string X.root, .string X.prev] 49)) (w.heap.size + 1 + 1) 3 (hdF X) 49 from by
      have h := Holds.new ((w.alloc (.cells #[.int .i64 0, .string ⟨#[]⟩, .string ⟨#[]⟩] 49)).alloc (.cells #[.int .i64 1, .string root, .string ⟨#[0, 0, 0, 0, 0, 0, 0, 0, 0, 0, 0, 0, 0, 0, 0, 0]⟩] 49)) 3 (hdF X) 49
      rw [World.size_alloc, World.size_alloc] at h
      exact h)
    go_wp2_with fail
    clear x0 d1 d2
    generalize (((w.alloc (.cells #[.int .i64 0, .string ⟨#[]⟩, .string ⟨#[]⟩] 49)).alloc (.cells #[.int .i64 1, .string root, .string ⟨#[0, 0, 0, 0, 0, 0, 0, 0, 0, 0, 0, 0, 0, 0, 0, 0]⟩] 49)).alloc (.cells #[.int .i64 X.epoch, .string X.root, .string X.prev] 49)) = w3 at HB3 HS3 HF3 HX3
    refine (pHdMark_is X (headMark X) 0 _ (HK.out.below HB3.out HK.out.lt) HMA.out).mono ?_
    rintro e w4 ⟨rfl, hb4⟩
    rw [HE0.out]
    have HB4 := Lib.hid (HB3.out.trans (hb4.mono HB3.out.size))
    have HS4 := Lib.hid (HS3.out.below hb4 HS3.out.lt)
    have HF4 := Lib.hid (HF3.out.below hb4 HF3.out.lt)
    have HX4 := Lib.hid (HX3.out.below hb4 HX3.out.lt)
    clear hb4
    have x0 : w4.cell? ⟨w.heap.size + 1 + 1, 0, none⟩ = some (.int .i64 X.epoch) := HX4.out.cell 0 (by omega)
    have q0 : w4.cell? ⟨w.heap.size + 1, 0, none⟩ = some (.int .i64 (firstHd root).epoch) := HF4.out.cell 0 (by omega)
    have q2 : w4.cell? ⟨w.heap.size + 1, 2, none⟩ = some (.string (firstHd root).prev) := HF4.out.cell 2 (by omega)
    have f0 : w4.frozen? ⟨w.heap.size + 1, 0, none⟩ = false := HF4.out.free 0
    have f2 : w4.frozen? ⟨w.heap.size + 1, 2, none⟩ = false := HF4.out.free 2
    have HB5 := Lib.hid (show Below w.heap.size w ((w4.setCell ⟨w.heap.size + 1, 0, none⟩ (.int .i64 (wrap64 (X.epoch + 1)))).setCell ⟨w.heap.size + 1, 2, none⟩ (.string (headMark X))) from (HB4.out.setCell (Nat.le_succ _) _).setCell (Nat.le_succ _) _)
    have HS5 := Lib.hid (show Holds ((w4.setCell ⟨w.heap.size + 1, 0, none⟩ (.int .i64 (wrap64 (X.epoch + 1)))).setCell ⟨w.heap.size + 1, 2, none⟩ (.string (headMark X))) w.heap.size 3 (hdF noHd) 49 from (HS4.out.other (by show w.heap.size ≠ w.heap.size + 1; omega) _).other (by show w.heap.size ≠ w.heap.size + 1; omega) _)
    have HF5 := Lib.hid (show Holds ((w4.setCell ⟨w.heap.size + 1, 0, none⟩ (.int .i64 (wrap64 (X.epoch + 1)))).setCell ⟨w.heap.size + 1, 2, none⟩ (.string (headMark X))) (w.heap.size + 1) 3 (hdF (afterHd X root)) 49 from by
      refine ((HF4.out.set 0 _).set 2 _).congr fun i hi => ?_
      rcases (show i = 0 ∨ i = 1 ∨ i = 2 by omega) with rfl | rfl | rfl <;> simp [upd, hdF, afterHd, firstHd])
    generalize afterHd X root = Z at HANS HF5
    have d0 : ((w4.setCell ⟨w.heap.size + 1, 0, none⟩ (.int .i64 (wrap64 (X.epoch + 1)))).setCell ⟨w.heap.size + 1, 2, none⟩ (.string (headMark X))).cell? ⟨w.heap.size + 1, 0, none⟩ = some (.int .i64 Z.epoch) := HF5.out.cell 0 (by omega)
    have d1 : ((w4.setCell ⟨w.heap.size + 1, 0, none⟩ (.int .i64 (wrap64 (X.epoch + 1)))).setCell ⟨w.heap.size + 1, 2, none⟩ (.string (headMark X))).cell? ⟨w.heap.size + 1, 1, none⟩ = some (.string Z.root) := HF5.out.cell 1 (by omega)
    have d2 : ((w4.setCell ⟨w.heap.size + 1, 0, none⟩ (.int .i64 (wrap64 (X.epoch + 1)))).setCell ⟨w.heap.size + 1, 2, none⟩ (.string (headMark X))).cell? ⟨w.heap.size + 1, 2, none⟩ = some (.string Z.prev) := HF5.out.cell 2 (by omega)
    go_wp2_with fail
    clear d0 d1 d2 x0 q0 q2 f0 f2
    generalize ((w4.setCell ⟨w.heap.size + 1, 0, none⟩ (.int .i64 (wrap64 (X.epoch + 1)))).setCell ⟨w.heap.size + 1, 2, none⟩ (.string (headMark X))) = w5 at HB5 HS5 HF5
  all_goals
    refine (pHdRight_any Z _).mono ?_
    rintro e w6 ⟨rfl, hb6⟩
    have HB6 := Lib.hid (HB5.out.trans (hb6.mono HB5.out.size))
    have HS6 := Lib.hid (HS5.out.below hb6 HS5.out.lt)
    have HF6 := Lib.hid (HF5.out.below hb6 HF5.out.lt)
    clear hb6
    have p0 : w6.cell? ⟨w.heap.size, 0, none⟩ = some (.int .i64 0) := HS6.out.cell 0 (by omega)
    have p1 : w6.cell? ⟨w.heap.size, 1, none⟩ = some (.string ⟨#[]⟩) := HS6.out.cell 1 (by omega)
    have p2 : w6.cell? ⟨w.heap.size, 2, none⟩ = some (.string ⟨#[]⟩) := HS6.out.cell 2 (by omega)
    have f0 : w6.frozen? ⟨w.heap.size, 0, none⟩ = false := HS6.out.free 0
    have f1 : w6.frozen? ⟨w.heap.size, 1, none⟩ = false := HS6.out.free 1
    have f2 : w6.frozen? ⟨w.heap.size, 2, none⟩ = false := HS6.out.free 2
    by_cases hzz : rightHead Z = true
    · have hans := HANS.out
      rw [if_pos hzz] at hans
      obtain ⟨rfl, rfl⟩ := Prod.mk.inj hans
      rw [hzz]
      clear hans hzz
      have c0 : w6.cell? ⟨w.heap.size + 1, 0, none⟩ = some (.int .i64 y.epoch) := HF6.out.cell 0 (by omega)
      have c1 : w6.cell? ⟨w.heap.size + 1, 1, none⟩ = some (.string y.root) := HF6.out.cell 1 (by omega)
      have c2 : w6.cell? ⟨w.heap.size + 1, 2, none⟩ = some (.string y.prev) := HF6.out.cell 2 (by omega)
      have HFIN := Lib.hid (head_stored HS6.out HB6.out (Nat.le_refl _) y)
      go_wp2
      refine bodyPost_ret (results_row2 rfl _ _ w.heap.size 49 (arr 3 (hdF y)) (0, 0) _ rfl HFIN.out.1 Tryz.underlying49 rfl (by rw [arr_size]; exact infoHead)) rfl ?_
      exact ⟨rfl, HFIN.out.2⟩
    · have hans := HANS.out
      rw [if_neg hzz] at hans
      obtain ⟨rfl, rfl⟩ := Prod.mk.inj hans
      have hz' : rightHead Z = false := by simpa using hzz
      rw [hz']
      clear hans hzz hz'
      have HFIN := Lib.hid (head_stored HS6.out HB6.out (Nat.le_refl _) noHd)
      go_wp2
      refine bodyPost_ret (results_row2 rfl _ _ w.heap.size 49 (arr 3 (hdF noHd)) (0, 0) _ rfl HFIN.out.1 Tryz.underlying49 rfl (by rw [arr_size]; exact infoHead)) rfl ?_
      exact ⟨rfl, HFIN.out.2⟩
set_option maxHeartbeats 1000000 in
set_option maxRecDepth 100000 in
theorem pNext_bad (L : List Hd) (A : Option Addr) (cap : Nat) (root : ByteArray) (w : World) (hk : HasK w) (hl : L.length ≤ 1000000) (hm : Hds w A L) (h0 : 0 < L.length) (hr : rightHead (hdAt L (L.length - 1)) = false) :
    Calls Tryz.prog 85 #[.slice A L.length cap, .string root] w fun e w' => e = .returned (.tuple #[.agg #[.int .i64 0, .string ⟨#[]⟩, .string ⟨#[]⟩], errOf 1]) ∧ Below w.heap.size w w' := by
  have HK := Lib.hid hk
  have HM := Lib.hid hm
  obtain ⟨HB2, HS2⟩ := (⟨Lib.hid (next_begin w root 49).1, Lib.hid (next_begin w root 49).2.1⟩ : Hid _ ∧ Hid _)
  have HE1 := Lib.hid (show errOf 1 = Value.iface 28 (.int .i64 1) from rfl)
  obtain ⟨k, hkl⟩ : ∃ k, k + 1 = L.length := ⟨L.length - 1, by omega⟩
  have hlt : k < L.length := by omega
  have h0' : (0 : Int) < (L.length : Int) := by omega
  have hrx : rightHead (hdAt L k) = false := by rwa [show L.length - 1 = k by omega] at hr
  have hwk : IntKind.i64.wrap ((L.length : Int) - 1) = (k : Int) := by rw [IntWalk.i64_in _ (by omega)]; omega
  have hk0 : (0 : Int) ≤ (k : Int) := by omega
  have hk1 : (k : Int) < (L.length : Int) := by omega
  obtain ⟨a, rfl, hal, x0, x1, x2⟩ := (HM.out.below HB2.out).at_ hlt
  have d1 : ((w.alloc (.cells #[.int .i64 0, .string ⟨#[]⟩, .string ⟨#[]⟩] 49)).alloc (.cells #[.int .i64 1, .string root, .string ⟨#[0, 0, 0, 0, 0, 0, 0, 0, 0, 0, 0, 0, 0, 0, 0, 0]⟩] 49)).cell? ⟨(a.add (k * 3)).block, (a.add (k * 3)).off + 1, none⟩ = some (.string (hdAt L k).root) := x1
  have d2 : ((w.alloc (.cells #[.int .i64 0, .string ⟨#[]⟩, .string ⟨#[]⟩] 49)).alloc (.cells #[.int .i64 1, .string root, .string ⟨#[0, 0, 0, 0, 0, 0, 0, 0, 0, 0, 0, 0, 0, 0, 0, 0]⟩] 49)).cell? ⟨(a.add (k * 3)).block, (a.add (k * 3)).off + 2, none⟩ = some (.string (hdAt L k).prev) := x2
  clear x1 x2 hal hkl hr h0 hk hm
  generalize hdAt L k = X at x0 d1 d2 hrx
  have HMA := Lib.hid (show headMarkAns X = (⟨#[]⟩, 1) by unfold headMarkAns; rw [hrx]; rfl)
  clear hrx
  go_enter Tryz.func85, Tryz.ntmps85
  have HB3 := Lib.hid (HB2.out.alloc HB2.out.size (.cells #[.int .i64 X.epoch, .string X.root, .string X.prev] 49))
  have HS3 := Lib.hid (HS2.out.alloc (.cells #[.int .i64 X.epoch, .string X.root, .string X.prev] 49))
  go_wp2_with fail
  clear x0 d1 d2
  generalize (((w.alloc (.cells #[.int .i64 0, .string ⟨#[]⟩, .string ⟨#[]⟩] 49)).alloc (.cells #[.int .i64 1, .string root, .string ⟨#[0, 0, 0, 0, 0, 0, 0, 0, 0, 0, 0, 0, 0, 0, 0, 0]⟩] 49)).alloc (.cells #[.int .i64 X.epoch, .string X.root, .string X.prev] 49)) = w3 at HB3 HS3
  refine (pHdMark_is X ⟨#[]⟩ 1 _ (HK.out.below HB3.out HK.out.lt) HMA.out).mono ?_
  rintro e w6 ⟨rfl, hb4⟩
  rw [HE1.out]
  have HB6 := Lib.hid (HB3.out.trans (hb4.mono HB3.out.size))
  have HS6 := Lib.hid (HS3.out.below hb4 HS3.out.lt)
  clear hb4
  have p0 : w6.cell? ⟨w.heap.size, 0, none⟩ = some (.int .i64 0) := HS6.out.cell 0 (by omega)
  have p1 : w6.cell? ⟨w.heap.size, 1, none⟩ = some (.string ⟨#[]⟩) := HS6.out.cell 1 (by omega)
  have p2 : w6.cell? ⟨w.heap.size, 2, none⟩ = some (.string ⟨#[]⟩) := HS6.out.cell 2 (by omega)
  have f0 : w6.frozen? ⟨w.heap.size, 0, none⟩ = false := HS6.out.free 0
  have f1 : w6.frozen? ⟨w.heap.size, 1, none⟩ = false := HS6.out.free 1
  have f2 : w6.frozen? ⟨w.heap.size, 2, none⟩ = false := HS6.out.free 2
  have HFIN := Lib.hid (head_stored HS6.out HB6.out (Nat.le_refl _) noHd)
  go_wp2
  refine bodyPost_ret (results_row2 rfl _ _ w.heap.size 49 (arr 3 (hdF noHd)) (0, 0) _ rfl HFIN.out.1 Tryz.underlying49 rfl (by rw [arr_size]; exact infoHead)) rfl ?_
  exact ⟨rfl, HFIN.out.2⟩
theorem pNext_is (L : List Hd) (A : Option Addr) (cap : Nat) (root : ByteArray) (y : Hd) (n : Int) (w : World) (hk : HasK w) (hl : L.length ≤ 1000000) (hm : Hds w A L) (h : nextAns L root = (y, n)) :
    Calls Tryz.prog 85 #[.slice A L.length cap, .string root] w fun e w' => e = .returned (.tuple #[.agg #[.int .i64 y.epoch, .string y.root, .string y.prev], errOf n]) ∧ Below w.heap.size w w' := by
  by_cases hr : 0 < L.length → rightHead (hdAt L (L.length - 1)) = true
  · exact pNext_good L A cap root y n w hk hl hm hr h
  · have h0 : 0 < L.length := Classical.byContradiction fun e => hr fun h => absurd h e
    have hf : rightHead (hdAt L (L.length - 1)) = false := by
      cases e : rightHead (hdAt L (L.length - 1)) with
      | true => exact absurd (fun _ => e) hr
      | false => rfl
    obtain ⟨k, hkl⟩ : ∃ k, k + 1 = L.length := ⟨L.length - 1, by omega⟩
    have hb := nextAns_bad (root := root) hkl (by rwa [show L.length - 1 = k by omega] at hf)
    rw [hb] at h
    obtain ⟨rfl, rfl⟩ := Prod.mk.inj h
    exact pNext_bad L A cap root w hk hl hm h0 hf
end Go.Proofs.YtcfpmofmjnhonaaGreatDoor
/- The program's once: Sign. -/
namespace Go.Proofs.YtcfpmofmjnhonaaGreatDoor
open Go.RowKit

theorem twoMarks {s m : ByteArray} {b : Bool} (h : (decide (s.size = 16) && decide (m.size = 16)) = b) : marksOk [s, m] = b := by
  rw [← h]; unfold marksOk; simp

theorem run_index_arr {P : Program} (w : World) (t e n : Nat) (cs : Array Value) (v : Value) (i : Nat) (h : P.underlying t = some (.array n e)) (h1 : ∀ w, (Go.sizeOf e).run P w = .ok 1 w) (h2 : ∀ w, (isAgg e).run P w = .ok false w) (hi : i < n) (hv : cs[i]? = some v) :
    (Instr.index t (.agg cs) (.int .i64 (i : Int))).run P w = .ok v w := by
  have hn : (0 : Int) ≤ (i : Int) ∧ (i : Int) < (n : Int) := by omega
  simp [Instr.index, run_underlying h, asIntOf, hn, h1, h2, hi, hv, Result.andThen, go_sem]
theorem sizeInt (w : World) : (Go.sizeOf 3).run Tryz.prog w = .ok 1 w := by kernel_rfl
theorem aggInt (w : World) : (isAgg 3).run Tryz.prog w = .ok false w := by kernel_rfl
theorem make35 (w : World) : (Instr.makeSlice 50 (.int .i64 35) (.int .i64 35)).run Tryz.prog w = .ok (.slice (some ⟨w.heap.size, 0, none⟩) 35 35) (w.alloc (.cells (arr 35 fun _ => .string ⟨#[]⟩) 9)) := by kernel_rfl
set_option maxRecDepth 100000 in
theorem qSign_at (seed : ByteArray) (key : Int) (m : ByteArray) (T : List ByteArray) (n : Int) (w : World) (hk : HasK w) (h : signAns seed key m = (T, n)) :
    Calls Tryz.prog 176 #[.string seed, .int .i64 key, .string m] w fun e w' => ∃ A cap, e = .returned (.tuple #[.slice A T.length cap, errOf n]) ∧ Below w.heap.size w w' ∧ Strs w' A T ∧ ∀ a, A = some a → 0 < T.length → w.heap.size ≤ a.block := by
  have HK := Lib.hid hk
  clear hk
  have HB0 := Lib.hid (alloc_below w (.cells #[.string seed, .string m] 9))
  have HS0 := Lib.hid (strs_new w [seed, m] 9)
  unfold signAns at h
  by_cases h16 : seed.size = 16 ∧ m.size = 16
  · rw [if_pos h16] at h
    obtain ⟨hx, rfl⟩ := Prod.mk.inj h
    have HX := Lib.hid hx
    have H16 := Lib.hid h16.1
    have HM16 := Lib.hid h16.2
    have HM := Lib.hid (twoMarks (s := seed) (m := m) (b := true) (by rw [decide_eq_true h16.1, decide_eq_true h16.2]; rfl))
    clear h hx h16
    go_enter Tryz.func176, Tryz.ntmps176
    go_wp2_with fail
    refine (qAre_any [seed, m] _ 2 _ (by simp) HS0.out).mono ?_
    rintro e w1 ⟨rfl, rfl⟩
    rw [HM.out]
    have hmk := make35
    go_wp2_with fail
    refine (qDigits_any m _ HM16.out).mono ?_
    rintro e w2 ⟨rfl, hb2⟩
    clear hmk
    have HB1 := Lib.hid (HB0.out.trans ((alloc_below _ (.cells (arr 35 fun _ => .string ⟨#[]⟩) 9)).mono HB0.out.size))
    have HN1 := Lib.hid (Holds.new (w.alloc (.cells (stCells [seed, m]).toArray 9)) 35 (fun _ => .string ⟨#[]⟩) 9)
    rw [World.size_alloc] at HN1
    have HH2 := Lib.hid (HN1.out.below hb2 HN1.out.lt)
    have HB2 := Lib.hid (HB1.out.trans (hb2.mono HB1.out.size))
    clear hb2
    have HZ := Lib.hid (show ∀ k, k < 35 → (arr 35 fun i => Value.int .i64 (((digitsOf m.data.toList).getD i 0 : Nat) : Int))[k]? = some (Value.int .i64 (((digitsOf m.data.toList).getD k 0 : Nat) : Int)) from fun k hk => arr_get 35 _ k hk)
    generalize (arr 35 fun i => Value.int .i64 (((digitsOf m.data.toList).getD i 0 : Nat) : Int)) = Z at HZ ⊢
    go_wp2
    go_loopw [20] (fun i wr => ∃ k : Nat, k ≤ 35 ∧ i = .int .i64 (k : Int) ∧ Hid (Below w.heap.size w wr ∧ Holds wr (w.heap.size + 1) 35 (sfill (signChains seed key m 35) k) 9)) (fun i _ => 35 - (intOf i).toNat)
    case atStart =>
      refine ⟨0, by omega, rfl, Lib.hid ⟨HB2.out, HH2.out.congr fun i hi => by unfold sfill; rw [if_neg (by omega)]⟩⟩
    case round =>
      obtain ⟨k, hk, rfl, HU⟩ := hrel
      by_cases hlt : k < 35
      · have HN := Lib.hid HU.out.2.lt
        obtain ⟨D, hD⟩ : ∃ D, (digitsOf m.data.toList).getD k 0 = D := ⟨_, rfl⟩
        have HXK := Lib.hid (show (signChains seed key m 35)[k]? = some (alongFrom (k : Int) D 0 (seedOf seed key k)) by rw [← hD]; exact map_range_at _ 35 k hlt)
        have HDL := Lib.hid (digit_le HM16.out k)
        have hz := HZ.out k hlt
        rw [hD] at HDL hz
        have hix := fun wx => run_index_arr (P := Tryz.prog) wx 330 3 35 Z _ k Tryz.underlying330 sizeInt aggInt hlt hz
        clear hD hz
        go_wp2_with fail
        refine (qFirst_any seed key k _ (HK.out.below HU.out.1 HK.out.lt) H16.out).mono ?_
        rintro e w3 ⟨rfl, hb3⟩
        have HB3 := Lib.hid (HU.out.1.trans (hb3.mono HU.out.1.size))
        have HH3 := Lib.hid (HU.out.2.below hb3 HN.out)
        have HL3 := Lib.hid (Nat.lt_of_lt_of_le HN.out hb3.size)
        clear hb3 hix
        go_wp2_with fail
        refine (qWalk_any (seedOf seed key k) (k : Int) 0 D _ (HK.out.below HB3.out HK.out.lt) (seedOf_size _ _ _) (by omega) HDL.out).mono ?_
        rintro e w4 ⟨rfl, hb4⟩
        have HB4 := Lib.hid (HB3.out.trans (hb4.mono HB3.out.size))
        have HH4 := Lib.hid (HH3.out.below hb4 HL3.out)
        clear hb4
        have c0 := HH4.out.cell k hlt
        have f0 := HH4.out.free k
        rw [show sfill (signChains seed key m 35) k k = .string ⟨#[]⟩ by unfold sfill; rw [if_neg (by omega)]] at c0
        go_wp2
        go_roundw
        case rel =>
          refine ⟨k + 1, by omega, by go_num, Lib.hid ⟨HB4.out.setCell (by show w.heap.size ≤ w.heap.size + 1; omega) _, ?_⟩⟩
          rw [← sfill_succ _ k _ HXK.out]
          exact HH4.out.set k _
        case measure => simp [intOf]; omega
      · obtain rfl : k = 35 := by omega
        have HLEN := Lib.hid (show (signChains seed key m 35).length = 35 from chains_len _ _)
        have HST := Lib.hid (strs_of_holds HU.out.2 HLEN.out)
        clear hlt hk
        go_wp2
        refine bodyPost_ret (results_tmp2 rfl _ _ _) rfl ?_
        refine ⟨some ⟨w.heap.size + 1, 0, none⟩, 35, ?_, HU.out.1, ?_, fun a ha _ => by cases ha; show w.heap.size ≤ w.heap.size + 1; omega⟩
        · rw [← HX.out, HLEN.out]; rfl
        · rw [← HX.out]; exact HST.out
  · rw [if_neg h16] at h
    obtain ⟨rfl, rfl⟩ := Prod.mk.inj h
    have HM := Lib.hid (twoMarks (s := seed) (m := m) (b := false) (by
      rw [Bool.and_eq_false_iff, decide_eq_false_iff_not, decide_eq_false_iff_not]
      rcases Classical.em (seed.size = 16) with e | e
      · exact .inr fun f => h16 ⟨e, f⟩
      · exact .inl e))
    clear h h16
    go_enter Tryz.func176, Tryz.ntmps176
    go_wp2_with fail
    refine (qAre_any [seed, m] _ 2 _ (by simp) HS0.out).mono ?_
    rintro e w1 ⟨rfl, rfl⟩
    rw [HM.out]
    go_wp2
    refine bodyPost_ret (results_tmp2 rfl _ _ _) rfl ?_
    exact ⟨_, _, rfl, HB0.out, Strs.nil _ _, fun _ _ h => absurd h (Nat.lt_irrefl 0)⟩
end Go.Proofs.YtcfpmofmjnhonaaGreatDoor
