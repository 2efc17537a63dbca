/- Parts of the proof, one behind the other: ToldP. -/
import Derived.Test.YtcfpmofmjnhonaaGreatDoorM9
import Derived.Test.YtcfpmofmjnhonaaGreatDoorM11
import Derived.KernelRfl
/- What is told first, as plain data. -/
namespace Go.Proofs.YtcfpmofmjnhonaaGreatDoor
open Go.RowKit

def sec16 : ByteArray := ⟨#[48, 49, 50, 51, 52, 53, 54, 55, 56, 57, 97, 98, 99, 100, 101, 102]⟩
def annT : ByteArray := ⟨#[97, 110, 110]⟩
def bobT : ByteArray := ⟨#[98, 111, 98]⟩
def keyT : ByteArray := ⟨#[107, 101, 121]⟩
theorem sec16_size : sec16.size = 16 := rfl
def toldD1 : Dst := ⟨sec16, [(annT, keyT)], [], [], []⟩
def toldD2 : Dst := (publishAns toldD1).1
theorem ann_ok : nameOk annT.data.toList = true := by decide
theorem bob_ok : nameOk bobT.data.toList = true := by decide
theorem told_put : putAns (newDst sec16) annT keyT = (toldD1, 0) := by
  unfold putAns
  rw [if_pos ann_ok, if_pos (show 1 ≤ keyT.size ∧ keyT.size ≤ 24 by decide)]
  rfl
theorem toldD1_ok : DOk toldD1 := by
  have := putAns_ok (newDst_ok sec16_size) annT keyT
  rwa [told_put] at this
theorem toldD1_chained : Chained toldD1 := by
  have := put_chained (newDst_chained sec16) annT keyT
  rwa [told_put] at this
theorem told_vals : (settled toldD1).vals = [(annT, keyT)] := rfl
theorem parted_one (s : ByteArray) : Parted [s] := fun a ha b hb _ _ _ => by
  rw [List.mem_singleton.1 ha, List.mem_singleton.1 hb]
theorem told_pub : publishAns toldD1 = ({ settled toldD1 with eps := [nextSgn toldD1] }, nextSgn toldD1, 0) ∧ Chained { settled toldD1 with eps := [nextSgn toldD1] } ∧ (nextSgn toldD1).head.root = rootOf (itemsOf (settled toldD1)) :=
  publish_chained toldD1_ok toldD1_chained (by show 0 < 8; omega) (by rw [told_vals]; exact parted_one _)
theorem toldD2_is : toldD2 = { settled toldD1 with eps := [nextSgn toldD1] } := by unfold toldD2; rw [told_pub.1]
theorem told_pub2 : publishAns toldD1 = (toldD2, nextSgn toldD1, 0) := by rw [toldD2_is]; exact told_pub.1
theorem toldD2_ok : DOk toldD2 := publishAns_ok toldD1_ok
theorem toldD2_chained : Chained toldD2 := by rw [toldD2_is]; exact told_pub.2.1
theorem toldD2_vals : toldD2.vals = [(annT, keyT)] := by rw [toldD2_is]; rfl
theorem toldD2_eps : toldD2.eps = [nextSgn toldD1] := by rw [toldD2_is]
theorem toldD2_sec : toldD2.secret = sec16 := by rw [toldD2_is]; rfl
theorem told_epoch : (nextSgn toldD1).head.epoch = 1 := by
  have := (toldD2_chained.link 0 (nextSgn toldD1) (by rw [toldD2_eps]; rfl)).2.1
  simpa using this
theorem told_last : lastSgn toldD2 = nextSgn toldD1 := by unfold lastSgn; rw [toldD2_eps]; rfl
theorem told_root : (lastSgn toldD2).head.root = rootOf (itemsOf toldD2) := by rw [told_last, toldD2_is]; exact told_pub.2.2
theorem told_look {name : ByteArray} (h : nameOk name.data.toList = true) : lookupAns toldD2 name = (foundAns toldD2 name (ofAns name).1, 0) := by
  unfold lookupAns
  rw [if_pos h, if_neg (by rw [toldD2_eps]; simp)]
theorem told_heads : headsOf toldD2 = [(nextSgn toldD1).head] := by unfold headsOf; rw [toldD2_eps]; rfl
theorem told_at : toldD2.eps[0]? = some (nextSgn toldD1) := by rw [toldD2_eps]; rfl
theorem told_see0 : seeAns ⟨dirPub sec16, []⟩ (lastSgn toldD2) = (⟨dirPub sec16, headsOf toldD2⟩, 0) := by
  have h := see_eps toldD2_ok toldD2_chained (i := 0) (n := 0) told_at (Nat.zero_le _)
  rw [if_neg (Nat.lt_irrefl 0), if_pos rfl, toldD2_sec, told_heads] at h
  rw [told_last, told_heads]
  exact h
theorem told_see1 : seeAns ⟨dirPub sec16, headsOf toldD2⟩ (lastSgn toldD2) = (⟨dirPub sec16, headsOf toldD2⟩, 0) := by
  have h := see_eps toldD2_ok toldD2_chained (i := 0) (n := 1) told_at (by rw [toldD2_eps]; exact Nat.le_refl _)
  rw [if_neg (show ¬ 1 < 0 by omega), if_neg (show ¬ 1 = 0 by omega), toldD2_sec, told_heads] at h
  rw [told_last, told_heads]
  exact h
set_option maxRecDepth 1000000 in
theorem ann_head : (ofAns annT).1.data.toList.head? = some 242 := by kernel_rfl
set_option maxRecDepth 1000000 in
theorem bob_head : (ofAns bobT).1.data.toList.head? = some 37 := by kernel_rfl
theorem ann_bob : (ofAns annT).1 ≠ (ofAns bobT).1 := fun e => by
  have h := ann_head
  rw [e, bob_head] at h
  exact absurd h (by decide)
theorem told_ann : askAns ⟨dirPub sec16, []⟩ annT (foundAns toldD2 annT (ofAns annT).1) = (⟨dirPub sec16, headsOf toldD2⟩, keyT, true, 0) := by
  have h := ask_found toldD2_ok (name := annT) (by
    rw [toldD2_vals]
    intro a ha b hb _ _ _
    have h1 : ∀ x ∈ [annT, annT], x = annT := by simp
    rw [h1 a ha, h1 b hb]) ann_ok (c := ⟨dirPub sec16, []⟩) (by rw [told_see0]) told_root
  rw [h, told_see0, toldD2_vals]
  rfl
theorem told_bob : askAns ⟨dirPub sec16, headsOf toldD2⟩ bobT (foundAns toldD2 bobT (ofAns bobT).1) = (⟨dirPub sec16, headsOf toldD2⟩, ⟨#[]⟩, false, 0) := by
  have h := ask_found toldD2_ok (name := bobT) (by
    rw [toldD2_vals]
    intro a ha b hb _ _ e
    have h1 : ∀ x ∈ [bobT, annT], x = bobT ∨ x = annT := by simp
    rcases h1 a ha with rfl | rfl <;> rcases h1 b hb with rfl | rfl
    · rfl
    · exact absurd e.symm ann_bob
    · exact absurd e ann_bob
    · rfl) bob_ok (c := ⟨dirPub sec16, headsOf toldD2⟩) (by rw [told_see1]) told_root
  rw [h, told_see1, toldD2_vals]
  rfl
end Go.Proofs.YtcfpmofmjnhonaaGreatDoor
