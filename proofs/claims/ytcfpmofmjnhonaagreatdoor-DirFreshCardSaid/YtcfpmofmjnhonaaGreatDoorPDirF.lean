/- What the program's directory answers: all contracts of the Face. -/
import Derived.Test.YtcfpmofmjnhonaaGreatDoorM25
import Derived.Test.YtcfpmofmjnhonaaGreatDoorM26
import Derived.Test.YtcfpmofmjnhonaaGreatDoorM28
import Derived.Test.YtcfpmofmjnhonaaGreatDoorM27
import Derived.Test.YtcfpmofmjnhonaaGreatDoorM15
import Derived.Test.YtcfpmofmjnhonaaGreatDoorM31
namespace Go.Proofs.YtcfpmofmjnhonaaGreatDoor
open Go.RowKit Go.Maps

theorem putAns_dim {d : Dst} (h : EpsDim d) (name value : ByteArray) : EpsDim (putAns d name value).1 := by
  unfold putAns
  repeat' split
  all_goals exact h
theorem epochs_read (F : Nat → Prop) (p : Nat) (d : Dst) (w : World) (h : PDir F w p d) (h8 : d.eps.length ≤ 8) (hdim : EpsDim d) :
    Calls Tryz.prog 25 #[.pointer (some ⟨p, 0, none⟩)] w fun e w' => ∃ A cap M, e = .returned (.slice A M.length cap) ∧ M.map SgM.s = d.eps ∧ M.length ≤ cap ∧ Below w.heap.size w w' ∧ Sgs w' A M ∧ Near F w A M.length ∧ ∀ m ∈ M, Near F w m.A m.s.sig.length ∧ Near F w m.B m.s.path.length := by
  obtain ⟨bb, mh, mw, vi, ve, H, M, h, hme, -⟩ := h
  have hM : M.length ≤ 8 := by have := congrArg List.length hme; rw [List.length_map] at this; omega
  obtain ⟨AE, cE, rfl, -, hsix⟩ := h.row.sixes
  have c5 : w.cell? ⟨p, 5, none⟩ = some (.slice AE M.length cE) := h.own.cell 5 (by omega)
  have hs : ∀ m ∈ M, Strs w m.A m.s.sig ∧ Strs w m.B m.s.path ∧ m.s.sig.length ≤ 1000000 ∧ m.s.path.length ≤ 1000000 := fun m hm => by
    have hd := hdim m.s (by rw [← hme]; exact List.mem_map_of_mem hm)
    have h1 := hd.sig
    have h2 := hd.path
    exact ⟨(h.sgs m hm).sig, (h.sgs m hm).path, by omega, by omega⟩
  refine (pDirEpochs_any p M AE cE w hM c5 hsix hs).mono ?_
  rintro e w' ⟨A', c', M', rfl, hmm, hc', hb, hs6, hA, hin⟩
  refine ⟨A', c', M', rfl, hmm.trans hme, hc', hb, fun i m hi => ?_, fun b e _ => .inr (hA b e), fun m hm => ⟨fun b e l => .inr (Nat.le_of_lt ((hin m hm).fs b e l)), fun b e l => .inr (Nat.le_of_lt ((hin m hm).fp b e l))⟩⟩
  obtain ⟨a, ha, hl, k0, k1, k2, k3, k4, k5⟩ := hs6 i m hi
  have hm := hin m (List.mem_of_getElem? hi)
  exact ⟨a, ha, hl, k0, k1, k2, k3, k4, k5, hm.sig, hm.path, hm.cp⟩
noncomputable def dirFace : DirFace where
  pa := Pub.over
  Is F w p d := PDir F w p d ∧ Chained d ∧ EpsDim d ∧ ¬ F 1
  lt h := h.1.lt
  same h hs := ⟨h.1.same hs, h.2⟩
  new_t := fun secret w h16 hk => by
    refine (pDirNew_t secret w hk h16).mono ?_
    rintro e w' ⟨p, F, rfl, hb, hd, hf⟩
    exact ⟨p, F, rfl, hb, ⟨hd, newDst_chained secret, (fun s hs => by cases hs), fun h => by have := hf _ h; have := hk.lt; omega⟩, hf⟩
  new_f := fun secret w h16 _ _ => pDirNew_f secret w h16
  pub := fun F p d w hd _ _ => pDirPublic_any F p d w hd.1
  put := fun F p d d' name value n w hd hok hk hn _ h => by
    refine (pPut_is F p d d' name value n w hd.1 hok hn h).mono ?_
    rintro e w' ⟨rfl, ho, hd'⟩
    have e1 : (putAns d name value).1 = d' := by rw [h]
    exact ⟨rfl, F, ho, Grew.refl _ _, hd', by rw [← e1]; exact put_chained hd.2.1 name value, by rw [← e1]; exact putAns_dim hd.2.2.1 name value, hd.2.2.2⟩
  publish := fun F p d d' sg n w hd hok hk h => by
    by_cases h8 : d.eps.length < 8
    · have e1 : Pub.over.f d = (Pub.over.next d, Pub.over.sgn d, 0) := if_pos h8
      rw [e1] at h
      obtain ⟨rfl, h2⟩ := Prod.mk.inj h
      obtain ⟨rfl, rfl⟩ := Prod.mk.inj h2
      refine (pPublish_next F p d w hd.1 hd.2.1 hok hk hd.2.2.2 h8).mono ?_
      rintro e w' ⟨m, F', hm, rfl, ho, hg, hd', hin⟩
      have hdm := Pub.over.f_dim hd.2.2.1
      rw [e1] at hdm
      refine ⟨m, F', hm, by rw [← hm]; rfl, ho, hg, ⟨hd', (Pub.over.next_linked hd.2.1 h8).1, hdm, Grew.kept hk hd.2.2.2 hg⟩, ?_, ?_, ?_, ?_⟩
      · rw [← hm]; exact hin.sig
      · rw [← hm]; exact hin.path
      · rw [← hm]; exact fun b e l => .inr (hin.fs b e l)
      · rw [← hm]; exact fun b e l => .inr (hin.fp b e l)
    · have e1 : Pub.over.f d = (d, noSgn, 12) := if_neg h8
      rw [e1] at h
      obtain ⟨rfl, h2⟩ := Prod.mk.inj h
      obtain ⟨rfl, rfl⟩ := Prod.mk.inj h2
      refine (pPublish_full F p d w hd.1 h8 hok.few).mono ?_
      rintro e w' ⟨rfl, hb⟩
      exact ⟨⟨noSgn, none, 0, none, 0⟩, F, rfl, rfl, Off.of_below hb, Grew.refl _ _, ⟨hd.1.below hb, hd.2⟩, (fun i q hi => by cases hi), (fun i q hi => by cases hi), (fun b e => by cases e), (fun b e => by cases e)⟩
  lookup := fun F p d name a n w hd hok hk hn h => pDirLookup_is F p d name a n w hd.1 hok hk hd.2.2.1 hn h
  epochs := fun F p d w hd hok _ => epochs_read F p d w hd.1 hok.few hd.2.2.1
end Go.Proofs.YtcfpmofmjnhonaaGreatDoor
