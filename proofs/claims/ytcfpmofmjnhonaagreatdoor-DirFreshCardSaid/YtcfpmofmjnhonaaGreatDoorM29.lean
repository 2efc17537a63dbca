/- Parts of the proof, one behind the other: RAsk, ClientF, ActApp, PCl, VMarks, QFrom. -/
import Derived.Test.YtcfpmofmjnhonaaGreatDoorM28
import Derived.Test.YtcfpmofmjnhonaaGreatDoorM10
import Derived.Test.YtcfpmofmjnhonaaGreatDoorM8
import Derived.Test.YtcfpmofmjnhonaaGreatDoorM7
import Derived.Test.YtcfpmofmjnhonaaGreatDoorM11
import Derived.Test.YtcfpmofmjnhonaaGreatDoorM15
import Derived.Test.YtcfpmofmjnhonaaGreatDoorM6
import Derived.Deep.AppendSrc
import Derived.Test.YtcfpmofmjnhonaaGreatDoorM9
import Derived.Test.YtcfpmofmjnhonaaGreatDoorM13
import Derived.Test.YtcfpmofmjnhonaaGreatDoorM18
/- The document's client: Ask. -/
namespace Go.Proofs.YtcfpmofmjnhonaaGreatDoor
open Go.RowKit

theorem ask_cases {c : Cl} {name : ByteArray} {a : Answ} {c1 : Cl} {cm : ByteArray} {tt : Bool} {n3 : Int} (hn : nameOk name.data.toList = true) (hs : seeAns c a.sgn = (c1, 0)) (hv : verifyAns a.sgn.head.root (markOf 105 [name]) a.path a.leaf = (cm, tt, n3)) :
    askAns c name a = if n3 = 0 then (if tt = false ∧ a.opening.size = 0 ∧ a.value.size = 0 then (c1, ⟨#[]⟩, false, 0) else if tt = true ∧ commitAns a.opening a.value = (cm, 0) then (c1, a.value, true, 0) else (c1, ⟨#[]⟩, false, 13)) else (c1, ⟨#[]⟩, false, n3) := by
  have hix : (ofAns name).1 = markOf 105 [name] := by unfold ofAns; rw [if_pos hn]
  unfold askAns
  rw [if_pos hn, hs, hix, hv]
  rfl
end Go.Proofs.YtcfpmofmjnhonaaGreatDoor
/- What the program's client answers (a Face), and what ClientSees keeps from deed to deed. -/
namespace Go.Proofs.YtcfpmofmjnhonaaGreatDoor
open Go.RowKit

/-- A deed. -/
structure Dd where
  what : Int
  epoch : Int
  spoil : Int
  other : Bool
  name : ByteArray
def noDd : Dd := ⟨0, 0, 0, false, ⟨#[]⟩⟩
def ddAt (L : List Dd) (i : Nat) : Dd := L.getD i noDd
theorem ddAt_of {L : List Dd} {i : Nat} (h : i < L.length) : ddAt L i = L[i] := by unfold ddAt; rw [List.getD_eq_getElem?_getD, List.getElem?_eq_getElem h]; rfl
/-- The deeds L lie at A. -/
def Dds (w : World) (A : Option Addr) (L : List Dd) : Prop := ∀ (i : Nat) x, L[i]? = some x → ∃ a, A = some a ∧ a.block < w.heap.size ∧ w.cell? (a.add (i * 5)) = some (.int .i64 x.what) ∧ w.cell? ((a.add (i * 5)).add 1) = some (.int .i64 x.epoch) ∧ w.cell? ((a.add (i * 5)).add 2) = some (.int .i64 x.spoil) ∧ w.cell? ((a.add (i * 5)).add 3) = some (.bool x.other) ∧ w.cell? ((a.add (i * 5)).add 4) = some (.string x.name)
theorem Dds.nil (w : World) (A : Option Addr) : Dds w A [] := fun i p h => by simp at h
theorem Dds.below {w w' : World} {A : Option Addr} {L : List Dd} {B : Nat} (h : Dds w A L) (hb : Below B w w') (hB : ∀ a, A = some a → 0 < L.length → a.block < B) : Dds w' A L := fun i p hp => by
  obtain ⟨a, ha, hl, c0, c1, c2, c3, c4⟩ := h i p hp
  have hlt := hB a ha (by have := (List.getElem?_eq_some_iff.1 hp).1; omega)
  exact ⟨a, ha, Nat.lt_of_lt_of_le hl hb.size, (hb.cell (by rw [block_add]; exact hlt)).trans c0, (hb.cell (by rw [block_add, block_add]; exact hlt)).trans c1, (hb.cell (by rw [block_add, block_add]; exact hlt)).trans c2, (hb.cell (by rw [block_add, block_add]; exact hlt)).trans c3, (hb.cell (by rw [block_add, block_add]; exact hlt)).trans c4⟩
theorem Dds.lt {w : World} {A : Option Addr} {L : List Dd} (h : Dds w A L) : ∀ a, A = some a → 0 < L.length → a.block < w.heap.size := fun a ha hl => by
  obtain ⟨a', e, hlt, _⟩ := h 0 _ (List.getElem?_eq_getElem hl)
  rw [ha] at e
  obtain rfl := Option.some.inj e
  exact hlt
theorem Dds.at_ {w : World} {A : Option Addr} {L : List Dd} (h : Dds w A L) {i : Nat} (hi : i < L.length) : ∃ a, A = some a ∧ a.block < w.heap.size ∧ w.cell? (a.add (i * 5)) = some (.int .i64 (ddAt L i).what) ∧ w.cell? ((a.add (i * 5)).add 1) = some (.int .i64 (ddAt L i).epoch) ∧ w.cell? ((a.add (i * 5)).add 2) = some (.int .i64 (ddAt L i).spoil) ∧ w.cell? ((a.add (i * 5)).add 3) = some (.bool (ddAt L i).other) ∧ w.cell? ((a.add (i * 5)).add 4) = some (.string (ddAt L i).name) :=
  h i _ (by rw [List.getElem?_eq_getElem hi, ddAt_of hi])

/-- What the program's client answers. -/
structure ClientFace where
  Is : (Nat → Prop) → World → Nat → Cl → Prop
  lt : ∀ {F : Nat → Prop} {w : World} {p : Nat} {c : Cl}, Is F w p c → ∀ k, F k → k < w.heap.size
  same : ∀ {F : Nat → Prop} {w w' : World} {p : Nat} {c : Cl}, Is F w p c → Same F w w' → Is F w' p c
  new : ∀ (pub : ByteArray) (w : World), pub.size = 16 → HasK w → Calls Tryz.prog 32 #[.string pub] w fun e w' => ∃ (p : Nat) (F : Nat → Prop), e = .returned (.tuple #[.pointer (some ⟨p, 0, none⟩), .nilIface]) ∧ Below w.heap.size w w' ∧ Is F w' p ⟨pub, []⟩ ∧ ∀ k, F k → w.heap.size ≤ k
  see : ∀ (F : Nat → Prop) (p : Nat) (c c' : Cl) (h : Hd) (key : Int) (S P : List ByteArray) (A B : Option Addr) (ca cb : Nat) (n : Int) (w : World), Is F w p c → HasK w → c.heads.length ≤ 1000 → S.length ≤ 1000 → P.length ≤ 1000 → h.epoch < 9223372036854775808 → Strs w A S → Strs w B P →
    (∀ a, A = some a → 0 < S.length → ¬ F a.block) → (∀ a, B = some a → 0 < P.length → ¬ F a.block) → seeAns c ⟨h, key, S, P⟩ = (c', n) →
    Calls Tryz.prog 33 #[.pointer (some ⟨p, 0, none⟩), .agg #[.int .i64 h.epoch, .string h.root, .string h.prev, .int .i64 key, .slice A S.length ca, .slice B P.length cb]] w fun e w' => e = .returned (errOf n) ∧ ∃ F' : Nat → Prop, Off F w w' ∧ Grew w F F' ∧ Is F' w' p c'
  ask : ∀ (F : Nat → Prop) (p : Nat) (c c' : Cl) (name : ByteArray) (m : AnM) (a : Answ) (v : ByteArray) (t : Bool) (n : Int) (w : World), Is F w p c → HasK w → c.heads.length ≤ 1000 → name.size ≤ 1000000 → SpDim a → AnIn w m a →
    (∀ b, m.sg.A = some b → 0 < a.sgn.sig.length → ¬ F b.block) → (∀ b, m.sg.B = some b → 0 < a.sgn.path.length → ¬ F b.block) → (∀ b, m.C = some b → 0 < a.path.length → ¬ F b.block) → askAns c name a = (c', v, t, n) →
    Calls Tryz.prog 36 #[.pointer (some ⟨p, 0, none⟩), .string name, .agg m.cells] w fun e w' => e = .returned (.tuple #[.string v, .bool t, errOf n]) ∧ ∃ F' : Nat → Prop, Off F w w' ∧ Grew w F F' ∧ Is F' w' p c'
  heads : ∀ (F : Nat → Prop) (p : Nat) (c : Cl) (w : World), Is F w p c → HasK w → c.heads.length ≤ 1000 → Calls Tryz.prog 46 #[.pointer (some ⟨p, 0, none⟩)] w fun e w' => ∃ A cap, e = .returned (.slice A c.heads.length cap) ∧ Below w.heap.size w w' ∧ Hds w' A c.heads

/-- Two directories, the document's client and the program's, each apart from the others. -/
structure Cs (FC : ClientFace) (w1 wr : World) (pa pb pw pc rb : Nat) (Fa Fb Fw Fc : Nat → Prop) (da db : Dst) (c c2 : Cl) : Prop where
  below : Below w1.heap.size w1 wr
  da : RDir Fa wr pa rb da
  db : RDir Fb wr pb rb db
  rc : RCl Fw wr pw rb c
  pc : FC.Is Fc wr pc c2
  bw : ∀ k, Fw k → w1.heap.size ≤ k
  bc : ∀ k, Fc k → w1.heap.size ≤ k
  aw : ∀ k, Fa k → ¬ Fw k
  ac : ∀ k, Fa k → ¬ Fc k
  dw : ∀ k, Fb k → ¬ Fw k
  dc : ∀ k, Fb k → ¬ Fc k
  cw : ∀ k, Fc k → ¬ Fw k
theorem Cs.calm {FC : ClientFace} {w1 wr w2 : World} {pa pb pw pc rb : Nat} {Fa Fb Fw Fc : Nat → Prop} {da db : Dst} {c c2 : Cl} (h : Cs FC w1 wr pa pb pw pc rb Fa Fb Fw Fc da db c c2) (hb : Below wr.heap.size wr w2) : Cs FC w1 w2 pa pb pw pc rb Fa Fb Fw Fc da db c c2 where
  below := h.below.trans (hb.mono h.below.size)
  da := h.da.below hb
  db := h.db.below hb
  rc := h.rc.below hb
  pc := FC.same h.pc (same_of_below hb (FC.lt h.pc))
  bw := h.bw
  bc := h.bc
  aw := h.aw
  ac := h.ac
  dw := h.dw
  dc := h.dc
  cw := h.cw
theorem Cs.prog {FC : ClientFace} {w1 wr w2 : World} {pa pb pw pc rb : Nat} {Fa Fb Fw Fc Fc' : Nat → Prop} {da db : Dst} {c c2 c2' : Cl} (h : Cs FC w1 wr pa pb pw pc rb Fa Fb Fw Fc da db c c2) (ho : Off Fc wr w2) (hg : Grew wr Fc Fc') (hp : FC.Is Fc' w2 pc c2') : Cs FC w1 w2 pa pb pw pc rb Fa Fb Fw Fc' da db c c2' where
  below := h.below.trans (ho.below h.bc h.below.size)
  da := h.da.same (ho.same h.da.lt h.ac)
  db := h.db.same (ho.same h.db.lt h.dc)
  rc := h.rc.same (ho.same h.rc.lt fun k hw hc => h.cw k hc hw)
  pc := hp
  bw := h.bw
  bc := hg.base h.bc h.below.size
  aw := h.aw
  ac := hg.apart h.da.lt h.ac
  dw := h.dw
  dc := hg.apart h.db.lt h.dc
  cw := fun k hk hw => by
    rcases hg k hk with e | e
    · exact h.cw k e hw
    · have := h.rc.lt k hw; omega
/-- Texts that are apart from F stay. -/
theorem Strs.off {F : Nat → Prop} {w w' : World} {A : Option Addr} {L : List ByteArray} (h : Strs w A L) (ho : Off F w w') (hn : ∀ a, A = some a → 0 < L.length → ¬ F a.block) : Strs w' A L :=
  Strs.same (F := fun k => k < w.heap.size ∧ ¬ F k) h (fun a e hl => ⟨h.lt a e hl, hn a e hl⟩) ⟨ho.size, fun k hk => ho.block k hk.1 hk.2⟩
theorem AnIn.off {F : Nat → Prop} {w w' : World} {m : AnM} {a : Answ} (h : AnIn w m a) (ho : Off F w w') (h1 : ∀ b, m.sg.A = some b → 0 < a.sgn.sig.length → ¬ F b.block) (h2 : ∀ b, m.sg.B = some b → 0 < a.sgn.path.length → ¬ F b.block) (h3 : ∀ b, m.C = some b → 0 < a.path.length → ¬ F b.block) : AnIn w' m a :=
  ⟨h.is, h.sgn, h.sig.off ho h1, h.path.off ho h2, h.way.off ho h3, h.cap⟩
theorem AnIn.below {w w' : World} {m : AnM} {a : Answ} (h : AnIn w m a) (hb : Below w.heap.size w w') : AnIn w' m a := ⟨h.is, h.sgn, h.sig.below hb, h.path.below hb, h.way.below hb, h.cap⟩
end Go.Proofs.YtcfpmofmjnhonaaGreatDoor
/- append onto a row of acts (a number and two texts each): many, that lie somewhere; slices.Clone of acts. -/
namespace Go.Proofs.YtcfpmofmjnhonaaGreatDoor
open Go.RowKit

theorem Hds.cells {w : World} {A : Option Addr} {L : List Hd} (h : Hds w A L) (hn : 0 < L.length) : ∃ a, A = some a ∧ ∀ j u, (hdCells L)[j]? = some u → w.cell? (a.add j) = some u := by
  obtain ⟨a, ha, _⟩ := h 0 _ (List.getElem?_eq_getElem hn)
  subst ha
  refine ⟨a, rfl, fun j u hj => ?_⟩
  have hjl : j < L.length * 3 := by
    have := (List.getElem?_eq_some_iff.1 hj).1
    rwa [hdCells_length] at this
  have hi : j / 3 < L.length := by omega
  obtain ⟨x, hx⟩ : ∃ x, L[j / 3]? = some x := ⟨_, List.getElem?_eq_getElem hi⟩
  obtain ⟨a', ha', _, c0, c1, c2⟩ := h (j / 3) x hx
  obtain rfl := Option.some.inj ha'
  have hg := hdCells_get L (j / 3) x (j % 3) hx (by omega)
  rw [show j / 3 * 3 + j % 3 = j by omega, hj] at hg
  rcases (show j % 3 = 0 ∨ j % 3 = 1 ∨ j % 3 = 2 by omega) with e | e | e
  · rw [e] at hg
    obtain rfl := Option.some.inj hg
    rw [show a.add j = a.add (j / 3 * 3) by congr 1; omega]; exact c0
  · rw [e] at hg
    obtain rfl := Option.some.inj hg
    rw [show a.add j = (a.add (j / 3 * 3)).add 1 by rw [add_add']; congr 1; omega]; exact c1
  · rw [e] at hg
    obtain rfl := Option.some.inj hg
    rw [show a.add j = (a.add (j / 3 * 3)).add 2 by rw [add_add']; congr 1; omega]; exact c2
theorem hdCells_one' (L : List Hd) : ∀ u ∈ hdCells L, u.oneCell' = true := by
  intro u hu
  unfold hdCells at hu
  simp only [List.mem_flatMap] at hu
  obtain ⟨x, _, hx⟩ := hu
  simp [Hd.cells] at hx
  rcases hx with rfl | rfl | rfl <;> rfl
theorem grown_refl (w : World) (g : Option Nat) : w.grownBy w g := ⟨rfl, rfl, rfl, Nat.le_refl _, fun _ _ _ => rfl⟩
theorem wpList_append_hds {P : Program} {ops : Array Oper} {rest : List Oper} {o : Oper} {a : Act} {w : World} {Q : Exit → Act → World → Prop} (hgd : o.guard = none) (s x : Operand) (T : TypeId)
    (ho : o.op = .call { callee := .builtin .append, args := #[s, x], argTypes := #[T, T] }) (e : TypeId) (ht : P.underlying T = some (.slice e)) (i : TypeInfo) (z : Value) (hi : P.info? e = some i) (hz : i.zero = some z) (hsz : i.size = 3) (hby : i.bytes = 40) (hzc : z.cells.size = 3)
    (base n : Nat) (M : List Hd) (v : Value) (hd : a.eval s = v) (hrow : Row w base 3 v n (hdCells M)) (hbase : base ≤ w.heap.size) (hn : n ≤ 1000000)
    (K : List Hd) (k : Nat) (hk : K.length = k) (A : Option Addr) (cap : Nat) (hs : a.eval x = .slice A k cap) (hm : Hds w A K) (hkl : k ≤ 1000000)
    (hK : ∀ v' w', Hid (Row w' base 3 v' (n + k) (hdCells (M ++ K))) → Hid (w.grownBy w' v.ownBlock) → wpList P ops Q rest (a.put o.dst v') w') : wpList P ops Q (o :: rest) a w := by
  by_cases h0 : k = 0
  · subst h0
    obtain rfl := List.eq_nil_of_length_eq_zero hk
    have hsrc : ∃ news, Src P i.size T (.slice A 0 cap) 0 news w := by
      cases A with
      | none => exact ⟨[], Src.ofNil w ht cap⟩
      | some x => exact ⟨[], Src.ofSlice w ht x 0 cap [] (by simp) (fun j u h => by simp at h) (fun u h => by cases h)⟩
    obtain ⟨news, hsrc⟩ := hsrc
    have hnl : news = [] := List.eq_nil_of_length_eq_zero (by simpa using hsrc.newsLen)
    subst hnl
    have hk1 : ∃ e', P.underlying T = some (.slice e') := ⟨e, ht⟩
    have hst : ∀ a : Addr, (storeCells a []).run P w = .ok () w := fun a => by simp [storeCells]
    have hrun : (Builtin.append_ #[T, T] o.type #[v, .slice A 0 cap]).run P w = .ok v w := by
      rcases hrow.2 with ⟨rfl, rfl⟩ | ⟨g, c0, rfl, _, _, hnc, _⟩
      · simp [Builtin.append_, run_underlying ht, sizeOf, typeInfo, hi, hsrc.len, hsrc.cells]
      · simp [Builtin.append_, run_underlying ht, sizeOf, typeInfo, hi, hsrc.len, hsrc.cells, hst, hnc]
    refine wpList_plain hgd fun K hK' => ?_
    unfold Oper.wp
    simp [execOp, ho, resolve, invoke, builtin, hd, hs, hrun, Result.andThen]
    exact hK' _ _ (hK _ _ (Lib.hid (by rw [List.append_nil]; exact hrow)) (Lib.hid (grown_refl _ _)))
  · obtain ⟨x, rfl, hc⟩ := hm.cells (by omega)
    refine wpList_append_row2 hgd s _ T ho e i z 3 40 ht hi hz hsz hby hzc (by decide) base _ n (hdCells M) hd hrow hbase x k cap (hdCells K) hs (by rw [hdCells_length, hk]) hc (hdCells_one' K) (by unfold maxLen; omega) (by omega) ?_
    intro v' w' hr hg _
    refine hK v' w' (Lib.hid ?_) hg
    rw [hdCells_append]
    exact hr.out
theorem infoActK : (Tryz.prog.info? 92).map (fun i => (i.zero, i.size, i.bytes)) = some (some (.agg #[.int .i64 0, .string ⟨#[]⟩, .string ⟨#[]⟩]), 3, 40) := by kernel_rfl
theorem cloneActs_any (L : List Hd) (A : Option Addr) (cap : Nat) (w : World) (hl : L.length ≤ 1000000) (hm : Hds w A L) :
    Calls Tryz.prog 37 #[.slice A L.length cap] w fun e w' => ∃ v, e = .returned v ∧ Below w.heap.size w w' ∧ Row w' w.heap.size 3 v L.length (hdCells L) := by
  have HM := Lib.hid hm
  clear hm
  cases A with
  | none =>
    obtain rfl : L = [] := by
      match L, HM with
      | [], _ => rfl
      | x :: r, HM =>
        obtain ⟨a, h, _⟩ := HM.out.at_ (show 0 < (x :: r).length by simp)
        cases h
    have hnil : ∀ u : World, (binOp .eql 73 (.slice none 0 cap) (.slice none 0 0)).run Tryz.prog u = .ok (.bool true) u := fun u => by kernel_rfl
    go_enter Tryz.func37, Tryz.ntmps37
    go_wp2
    go_ret
    exact ⟨_, rfl, Below.refl _ _, Row.nil _ _ _⟩
  | some x =>
    have hnil : ∀ u : World, (binOp .eql 73 (.slice (some x) L.length cap) (.slice none 0 0)).run Tryz.prog u = .ok (.bool false) u := fun u => by kernel_rfl
    obtain ⟨i0, hi0, hz0, hz1, hz2⟩ := info_parts infoActK
    have hb0 : Below w.heap.size w (w.alloc (.cells #[] 92)) := alloc_below w _
    go_enter Tryz.func37, Tryz.ntmps37
    go_wp2_with (at_builtin; refine wpList_append_hds rfl (.tmp 5) (.tmp 6) 73 rfl 92 Tryz.underlying73 i0 _ hi0 hz0 hz1 hz2 rfl w.heap.size 0 [] _ rfl ⟨rfl, .inr ⟨w.heap.size, 0, rfl, Nat.le_refl _, by simp, Nat.le_refl 0, (fun j u h => by cases h), fun j h => by omega⟩⟩ (by simp) (by omega) L L.length rfl (some x) cap rfl (HM.out.below hb0) hl ?_; intro v' w7 hr7 hg7)
    go_wp2
    go_ret
    refine ⟨_, rfl, hb0.grown hg7.out hb0.size (fun k e => by cases e; exact Nat.le_refl _), ?_⟩
    have h := hr7.out
    rw [Nat.zero_add, List.nil_append] at h
    exact h
end Go.Proofs.YtcfpmofmjnhonaaGreatDoor
/- The program's client in memory: New, Heads. -/
namespace Go.Proofs.YtcfpmofmjnhonaaGreatDoor
open Go.RowKit

def pcF (pub : ByteArray) (v : Value) : Nat → Value := fun i => if i = 0 then .string pub else v
/-- The program's client at block p. -/
structure PClM (F : Nat → Prop) (w : World) (p : Nat) (c : Cl) (v : Value) : Prop where
  own : Holds w p 2 (pcF c.pub v) 175
  row : Row w (p + 1) 3 v c.heads.length (hdCells c.heads)
  fp : F p
  fv : ∀ k, v.ownBlock = some k → F k
  lt : ∀ k, F k → k < w.heap.size
def PCl (F : Nat → Prop) (w : World) (p : Nat) (c : Cl) : Prop := ∃ v, PClM F w p c v
theorem PClM.same {F : Nat → Prop} {w w' : World} {p : Nat} {c : Cl} {v : Value} (h : PClM F w p c v) (hs : Same F w w') : PClM F w' p c v where
  own := by have := h.own; unfold Holds at this ⊢; rw [hs.block p h.fp]; exact this
  row := h.row.kept (fun k hk => hs.block k (h.fv k hk)) hs.size
  fp := h.fp
  fv := h.fv
  lt k hk := Nat.lt_of_lt_of_le (h.lt k hk) hs.size
theorem PCl.same {F : Nat → Prop} {w w' : World} {p : Nat} {c : Cl} (h : PCl F w p c) (hs : Same F w w') : PCl F w' p c := by
  obtain ⟨v, h⟩ := h
  exact ⟨v, h.same hs⟩
theorem PCl.lt {F : Nat → Prop} {w : World} {p : Nat} {c : Cl} (h : PCl F w p c) : ∀ k, F k → k < w.heap.size := by
  obtain ⟨v, h⟩ := h
  exact h.lt
theorem PCl.below {F : Nat → Prop} {w w' : World} {p : Nat} {c : Cl} (h : PCl F w p c) (hb : Below w.heap.size w w') : PCl F w' p c := h.same (same_of_below hb h.lt)
theorem pNewClient_t (pub : ByteArray) (w : World) (h16 : pub.size = 16) :
    Calls Tryz.prog 32 #[.string pub] w fun e w' => ∃ (p : Nat) (F : Nat → Prop), e = .returned (.tuple #[.pointer (some ⟨p, 0, none⟩), .nilIface]) ∧ Below w.heap.size w w' ∧ PCl F w' p ⟨pub, []⟩ ∧ ∀ k, F k → w.heap.size ≤ k := by
  have HB := Lib.hid (alloc_below w (.cells #[.string pub, .slice none 0 0] 175))
  have HN := Lib.hid (show Holds (w.alloc (.cells #[.string pub, .slice none 0 0] 175)) w.heap.size 2 (pcF pub (.slice none 0 0)) 175 from Holds.new w 2 (pcF pub (.slice none 0 0)) 175)
  have h1 : ((pub.size : Int) != 16) = false := by simp; omega
  clear h16
  go_enter Tryz.func32, Tryz.ntmps32
  go_wp2
  refine bodyPost_ret (results_tmp2 rfl _ _ _) rfl ?_
  refine ⟨w.heap.size, fun k => k = w.heap.size, rfl, HB.out, ⟨.slice none 0 0, HN.out, Row.nil _ _ _, rfl, (fun k hk => by cases hk), fun k hk => ?_⟩, fun k hk => by rw [hk]; exact Nat.le_refl _⟩
  rw [hk]; exact HN.out.lt
theorem cloneHeads_any (L : List Hd) (A : Option Addr) (cap : Nat) (w : World) (hl : L.length ≤ 1000000) (hm : Hds w A L) :
    Calls Tryz.prog 94 #[.slice A L.length cap] w fun e w' => ∃ v, e = .returned v ∧ Below w.heap.size w w' ∧ Row w' w.heap.size 3 v L.length (hdCells L) := by
  have HM := Lib.hid hm
  clear hm
  cases A with
  | none =>
    obtain rfl : L = [] := by
      match L, HM with
      | [], _ => rfl
      | x :: r, HM =>
        obtain ⟨a, h, _⟩ := HM.out.at_ (show 0 < (x :: r).length by simp)
        cases h
    have hnil : ∀ u : World, (binOp .eql 84 (.slice none 0 cap) (.slice none 0 0)).run Tryz.prog u = .ok (.bool true) u := fun u => by kernel_rfl
    go_enter Tryz.func94, Tryz.ntmps94
    go_wp2
    go_ret
    exact ⟨_, rfl, Below.refl _ _, Row.nil _ _ _⟩
  | some x =>
    have hnil : ∀ u : World, (binOp .eql 84 (.slice (some x) L.length cap) (.slice none 0 0)).run Tryz.prog u = .ok (.bool false) u := fun u => by kernel_rfl
    obtain ⟨i0, hi0, hz0, hz1, hz2⟩ := info_parts infoHd
    have hb0 : Below w.heap.size w (w.alloc (.cells #[] 49)) := alloc_below w _
    go_enter Tryz.func94, Tryz.ntmps94
    go_wp2_with (at_builtin; refine wpList_append_hds rfl (.tmp 5) (.tmp 6) 84 rfl 49 Tryz.underlying84 i0 _ hi0 hz0 hz1 hz2 rfl w.heap.size 0 [] _ rfl ⟨rfl, .inr ⟨w.heap.size, 0, rfl, Nat.le_refl _, by simp, Nat.le_refl 0, (fun j u h => by cases h), fun j h => by omega⟩⟩ (by simp) (by omega) L L.length rfl (some x) cap rfl (HM.out.below hb0) hl ?_; intro v' w7 hr7 hg7)
    go_wp2
    go_ret
    refine ⟨_, rfl, hb0.grown hg7.out hb0.size (fun k e => by cases e; exact Nat.le_refl _), ?_⟩
    have h := hr7.out
    rw [Nat.zero_add, List.nil_append] at h
    exact h
theorem pHeads_any (F : Nat → Prop) (p : Nat) (c : Cl) (w : World) (hc : PCl F w p c) (hl : c.heads.length ≤ 1000000) :
    Calls Tryz.prog 46 #[.pointer (some ⟨p, 0, none⟩)] w fun e w' => ∃ A cap, e = .returned (.slice A c.heads.length cap) ∧ Below w.heap.size w w' ∧ Hds w' A c.heads := by
  obtain ⟨v, hc⟩ := hc
  obtain ⟨-, A, cap, hv, hh⟩ := hc.row.hds
  have h1 : w.cell? ⟨p, 1, none⟩ = some v := hc.own.cell 1 (by omega)
  rw [hv] at h1
  have HH := Lib.hid hh
  have HL := Lib.hid hl
  clear hc hv hh hl
  go_enter Tryz.func46, Tryz.ntmps46
  go_wp2_with fail
  refine (cloneHeads_any c.heads A cap _ HL.out HH.out).mono ?_
  rintro e w1 ⟨v', rfl, hb1, hr1⟩
  obtain ⟨-, B, cb, rfl, hhb⟩ := hr1.hds
  have HB := Lib.hid hb1
  have HHB := Lib.hid hhb
  clear hb1 hr1 hhb h1
  go_wp2
  go_ret
  exact ⟨B, cb, rfl, HB.out, HHB.out⟩
end Go.Proofs.YtcfpmofmjnhonaaGreatDoor
/- The program's seal: whether all texts are marks, by slices.ContainsFunc. -/
namespace Go.Proofs.YtcfpmofmjnhonaaGreatDoor
open Go.RowKit

theorem vNoMark_any (s : ByteArray) (w : World) : Calls Tryz.prog 230 #[.string s] w fun e w' => e = .returned (.bool (!decide (s.size = 16))) ∧ w' = w := by
  by_cases h : s.size = 16
  · rw [decide_eq_true h]
    have hi : ((s.size : Int) == 16) = true := by rw [beq_iff_eq]; omega
    have hj : ((s.size : Int) != 16) = false := by simp [bne, hi]
    go_enter Tryz.func230, Tryz.ntmps230
    go_wp2
    go_ret
    exact ⟨rfl, rfl⟩
  · rw [decide_eq_false h]
    have hi : ((s.size : Int) == 16) = false := by rw [beq_eq_false_iff_ne]; omega
    have hj : ((s.size : Int) != 16) = true := by simp [bne, hi]
    go_enter Tryz.func230, Tryz.ntmps230
    go_wp2
    go_ret
    exact ⟨rfl, rfl⟩
set_option maxRecDepth 100000 in
theorem vMarksIx_any (P : List ByteArray) (A : Option Addr) (cap : Nat) (w : World) (hl : P.length ≤ 1000000) (hm : Strs w A P) :
    Calls Tryz.prog 195 #[.slice A P.length cap, .func (.func 230) #[] #[]] w fun e w' => w' = w ∧ ∃ n : Int, e = .returned (.int .i64 n) ∧ ((0 ≤ n ∧ marksOk P = false) ∨ (n = -1 ∧ marksOk P = true)) := by
  have HM := Lib.hid hm
  clear hm
  go_enter Tryz.func195, Tryz.ntmps195
  go_wp2
  go_loopw [8] (fun t wr => ∃ j : Nat, j ≤ P.length ∧ t = .int .i64 (j : Int) ∧ wr = w ∧ marksUpto P j = true) (fun t _ => P.length - (intOf t).toNat)
  case atStart => exact ⟨0, by omega, rfl, rfl, rfl⟩
  case round =>
    obtain ⟨j, hj, rfl, rfl, hall⟩ := hrel
    have HALL := Lib.hid hall
    clear hall
    by_cases hlt : j < P.length
    · obtain ⟨p, hp⟩ : ∃ p, P[j]? = some p := ⟨_, List.getElem?_eq_getElem hlt⟩
      obtain ⟨a, rfl, hal, c0⟩ := HM.out j p hp
      have HP := Lib.hid hp
      clear hp
      go_wp2_with fail
      refine (vNoMark_any p _).mono ?_
      rintro e w1 ⟨rfl, rfl⟩
      by_cases he : p.size = 16
      · rw [decide_eq_true he]
        have HE := Lib.hid he
        clear he
        go_wp2
        go_roundw
        case rel =>
          refine ⟨j + 1, by omega, by go_num, ?_, ?_⟩
          · first | rfl | trivial
          · have := HALL.out
            unfold marksUpto marksOk at this ⊢
            rw [List.take_add_one, HP.out, List.all_append, this]
            simp [HE.out]
        case measure => simp [intOf]; omega
      · rw [decide_eq_false he]
        have HE := Lib.hid he
        clear he
        go_wp2
        go_ret
        exact ⟨rfl, j, rfl, .inl ⟨by omega, marksOk_false HP.out HE.out⟩⟩
    · go_wp2
      go_ret
      exact ⟨rfl, -1, rfl, .inr ⟨rfl, by have h := HALL.out; unfold marksUpto at h; rwa [List.take_of_length_le (by omega)] at h⟩⟩
theorem vMarks_any (P : List ByteArray) (A : Option Addr) (cap : Nat) (w : World) (hl : P.length ≤ 1000000) (hm : Strs w A P) :
    Calls Tryz.prog 143 #[.slice A P.length cap, .func (.func 230) #[] #[]] w fun e w' => e = .returned (.bool (!marksOk P)) ∧ w' = w := by
  go_enter Tryz.func143, Tryz.ntmps143
  go_wp2_with fail
  refine (vMarksIx_any P A cap _ hl hm).mono ?_
  rintro e w1 ⟨rfl, n, rfl, ⟨h0, hf⟩ | ⟨rfl, hf⟩⟩
  · have HF := Lib.hid hf
    clear hf
    go_wp2
    go_ret
    exact ⟨by rw [HF.out]; rfl, rfl⟩
  · have HF := Lib.hid hf
    clear hf
    go_wp2
    go_ret
    exact ⟨by rw [HF.out]; rfl, rfl⟩
theorem vAre_any (P : List ByteArray) (A : Option Addr) (cap : Nat) (w : World) (hl : P.length ≤ 1000000) (hm : Strs w A P) :
    Calls Tryz.prog 187 #[.slice A P.length cap] w fun e w' => e = .returned (.bool (marksOk P)) ∧ w' = w := by
  obtain ⟨M, hM⟩ : ∃ M, marksOk P = M := ⟨_, rfl⟩
  have HM := Lib.hid hM
  rw [hM]
  clear hM
  go_enter Tryz.func187, Tryz.ntmps187
  go_wp2_with fail
  refine (vMarks_any P A cap _ hl hm).mono ?_
  rintro e w1 ⟨rfl, rfl⟩
  rw [HM.out]
  go_wp2
  go_ret
  exact ⟨rfl, rfl⟩
end Go.Proofs.YtcfpmofmjnhonaaGreatDoor
/- The program's once: From. -/
namespace Go.Proofs.YtcfpmofmjnhonaaGreatDoor
open Go.RowKit

set_option maxRecDepth 100000 in
theorem qFrom_is (m : ByteArray) (S : List ByteArray) (A : Option Addr) (cap : Nat) (x : ByteArray) (n : Int) (w : World) (hk : HasK w) (hl : S.length ≤ 1000000) (hs : Strs w A S) (h : fromAns m S = (x, n)) :
    Calls Tryz.prog 188 #[.string m, .slice A S.length cap] w fun e w' => e = .returned (.tuple #[.string x, errOf n]) ∧ Below w.heap.size w w' := by
  have HK := Lib.hid hk
  have HS := Lib.hid hs
  clear hk hs
  have HB0 := Lib.hid (alloc_below w (.cells #[.string m] 9))
  have HS0 := Lib.hid (strs_new w [m] 9)
  unfold fromAns at h
  by_cases h16 : m.size = 16
  · have HM := Lib.hid (oneMark (decide_eq_true h16))
    have HM16 := Lib.hid h16
    by_cases h35 : S.length = 35
    · have HL35 := Lib.hid h35
      have e35 : ((S.length : Int) == 35) = true := by rw [beq_iff_eq]; omega
      have e36 : ((S.length : Int) != 35) = false := by simp; omega
      by_cases hmk : marksOk S = true
      · rw [if_pos ⟨h16, h35, hmk⟩] at h
        obtain ⟨hx, rfl⟩ := Prod.mk.inj h
        have HX := Lib.hid hx
        have HMK := Lib.hid hmk
        have hs1 : S.length ≤ 35 := by omega
        have hs2 : 35 ≤ S.length := by omega
        clear h hx h16 h35 hmk
        go_enter Tryz.func188, Tryz.ntmps188
        go_wp2_with fail
        refine (qAre_any [m] _ 1 _ (by simp) HS0.out).mono ?_
        rintro e w1 ⟨rfl, rfl⟩
        rw [HM.out]
        go_wp2_with fail
        refine (qAre_any S A cap _ hl (HS.out.below HB0.out)).mono ?_
        rintro e w1 ⟨rfl, rfl⟩
        rw [HMK.out]
        clear e35 e36
        go_wp2_with fail
        refine (qDigits_any m _ HM16.out).mono ?_
        rintro e w2 ⟨rfl, hb2⟩
        have HB1 := Lib.hid (HB0.out.trans ((alloc_below _ (.cells (arr 35 fun _ => .string ⟨#[]⟩) 309)).mono HB0.out.size))
        have HN1 := Lib.hid (Holds.new (w.alloc (.cells (stCells [m]).toArray 9)) 35 (fun _ => .string ⟨#[]⟩) 309)
        rw [World.size_alloc] at HN1
        have HH2 := Lib.hid (HN1.out.below hb2 HN1.out.lt)
        have HB2 := Lib.hid (HB1.out.trans (hb2.mono HB1.out.size))
        clear hb2
        have HZ := Lib.hid (show ∀ k, k < 35 → (arr 35 fun i => Value.int .i64 (((digitsOf m.data.toList).getD i 0 : Nat) : Int))[k]? = some (Value.int .i64 (((digitsOf m.data.toList).getD k 0 : Nat) : Int)) from fun k hk => arr_get 35 _ k hk)
        generalize (arr 35 fun i => Value.int .i64 (((digitsOf m.data.toList).getD i 0 : Nat) : Int)) = Z at HZ ⊢
        go_wp2
        go_loopw [26] (fun i wr => ∃ k : Nat, k ≤ 35 ∧ i = .int .i64 (k : Int) ∧ Hid (Below w.heap.size w wr ∧ Holds wr (w.heap.size + 1) 35 (sfill (fromChains m S 35) k) 309)) (fun i _ => 35 - (intOf i).toNat)
        case atStart =>
          refine ⟨0, by omega, rfl, Lib.hid ⟨HB2.out, HH2.out.congr fun i hi => by unfold sfill; rw [if_neg (by omega)]⟩⟩
        case round =>
          obtain ⟨k, hk, rfl, HU⟩ := hrel
          by_cases hlt : k < 35
          · have HN := Lib.hid HU.out.2.lt
            obtain ⟨D, hD⟩ : ∃ D, (digitsOf m.data.toList).getD k 0 = D := ⟨_, rfl⟩
            obtain ⟨p, hp⟩ : ∃ p, S[k]? = some p := ⟨_, List.getElem?_eq_getElem (by omega)⟩
            obtain ⟨a, rfl, _, c0⟩ := (HS.out.below HU.out.1) k p hp
            have HXK := Lib.hid (show (fromChains m S 35)[k]? = some (alongFrom (k : Int) (15 - D) D p) by
              have e := map_range_at (fun c : Nat => alongFrom (c : Int) (15 - (digitsOf m.data.toList).getD c 0) ((digitsOf m.data.toList).getD c 0) (S.getD c ⟨#[]⟩)) 35 k hlt
              rw [hD, List.getD_eq_getElem?_getD, hp] at e
              exact e)
            have HPS := Lib.hid (marksOk_get HMK.out hp)
            have HDL := Lib.hid (digit_le HM16.out k)
            have hz := HZ.out k hlt
            rw [hD] at HDL hz
            have hix := fun wx => run_index_arr (P := Tryz.prog) wx 330 3 35 Z _ k Tryz.underlying330 sizeInt aggInt hlt hz
            clear hD hz hp
            go_wp2_with fail
            clear hix c0
            refine (qWalk_any p (k : Int) D 15 _ (HK.out.below HU.out.1 HK.out.lt) HPS.out HDL.out (by omega)).mono ?_
            rintro e w4 ⟨rfl, hb4⟩
            have HB4 := Lib.hid (HU.out.1.trans (hb4.mono HU.out.1.size))
            have HH4 := Lib.hid (HU.out.2.below hb4 HN.out)
            clear hb4
            have c0 := HH4.out.cell k hlt
            have f0 := HH4.out.free k
            rw [show sfill (fromChains m S 35) k k = .string ⟨#[]⟩ by unfold sfill; rw [if_neg (by omega)]] at c0
            go_wp2
            go_roundw
            case rel =>
              refine ⟨k + 1, by omega, by go_num, Lib.hid ⟨HB4.out.setCell (by show w.heap.size ≤ w.heap.size + 1; omega) _, ?_⟩⟩
              rw [← sfill_succ _ k _ HXK.out]
              exact HH4.out.set k _
            case measure => simp [intOf]; omega
          · obtain rfl : k = 35 := by omega
            have HLEN := Lib.hid (show (fromChains m S 35).length = 35 from chains_len _ _)
            have HST := Lib.hid (strs_of_holds HU.out.2 HLEN.out)
            have HTOT := Lib.hid (show total (fromChains m S 35) ≤ 1073741800 by have := total_leM _ 16 (from_size m S (marksOk_all HMK.out) HL35.out 35 (Nat.le_refl _)); rw [HLEN.out] at this; omega)
            have HKW := Lib.hid (HK.out.below HU.out.1 HK.out.lt)
            have HMA := Lib.hid (mark_any 112 (fromChains m S 35) (some ⟨w.heap.size + 1, 0, none⟩) 35 wr HKW.out HTOT.out (by rw [HLEN.out]; omega) HST.out)
            rw [HLEN.out] at HMA
            clear hlt hk
            go_wp2_with fail
            refine HMA.out.mono ?_
            rintro e w7 ⟨rfl, hb7⟩
            have HB7 := Lib.hid (HU.out.1.trans (hb7.mono HU.out.1.size))
            clear hb7 HMA
            go_wp2
            refine bodyPost_ret (results_tmp2 rfl _ _ _) rfl ?_
            exact ⟨by rw [← HX.out]; rfl, HB7.out⟩
      · rw [if_neg (fun e => hmk e.2.2)] at h
        obtain ⟨rfl, rfl⟩ := Prod.mk.inj h
        have HMK := Lib.hid (show marksOk S = false by simpa using hmk)
        clear h h16 h35 hmk
        go_enter Tryz.func188, Tryz.ntmps188
        go_wp2_with fail
        refine (qAre_any [m] _ 1 _ (by simp) HS0.out).mono ?_
        rintro e w1 ⟨rfl, rfl⟩
        rw [HM.out]
        go_wp2_with fail
        refine (qAre_any S A cap _ hl (HS.out.below HB0.out)).mono ?_
        rintro e w1 ⟨rfl, rfl⟩
        rw [HMK.out]
        go_wp2
        refine bodyPost_ret (results_tmp2 rfl _ _ _) rfl ?_
        exact ⟨rfl, HB0.out⟩
    · rw [if_neg (fun e => h35 e.2.1)] at h
      obtain ⟨rfl, rfl⟩ := Prod.mk.inj h
      have e35 : ((S.length : Int) == 35) = false := by rw [beq_eq_false_iff_ne]; omega
      have e36 : ((S.length : Int) != 35) = true := by simp; omega
      clear h h16 h35
      go_enter Tryz.func188, Tryz.ntmps188
      go_wp2_with fail
      refine (qAre_any [m] _ 1 _ (by simp) HS0.out).mono ?_
      rintro e w1 ⟨rfl, rfl⟩
      rw [HM.out]
      go_wp2
      refine bodyPost_ret (results_tmp2 rfl _ _ _) rfl ?_
      exact ⟨rfl, HB0.out⟩
  · rw [if_neg (fun e => h16 e.1)] at h
    obtain ⟨rfl, rfl⟩ := Prod.mk.inj h
    have HM := Lib.hid (oneMark (decide_eq_false h16))
    clear h h16
    go_enter Tryz.func188, Tryz.ntmps188
    go_wp2_with fail
    refine (qAre_any [m] _ 1 _ (by simp) HS0.out).mono ?_
    rintro e w1 ⟨rfl, rfl⟩
    rw [HM.out]
    go_wp2
    refine bodyPost_ret (results_tmp2 rfl _ _ _) rfl ?_
    exact ⟨rfl, HB0.out⟩
end Go.Proofs.YtcfpmofmjnhonaaGreatDoor
