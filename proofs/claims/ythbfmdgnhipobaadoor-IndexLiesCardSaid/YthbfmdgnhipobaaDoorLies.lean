/- IndexLies, the walk. -/
import Derived.Test.YthbfmdgnhipobaaDoorLong
import Derived.Test.YthbfmdgnhipobaaDoorNew
import Derived.Test.YthbfmdgnhipobaaDoorOf
namespace Go.Proofs.YthbfmdgnhipobaaDoor
open Go.RowKit

set_option maxHeartbeats 4000000 in
set_option maxRecDepth 100000 in
theorem lies_any (name a b : ByteArray) (k : Int) (w : World) (hk : HasK w) (hg : w.cell? ⟨1, 0, none⟩ = some (.iface 100 (.agg #[hand 29]))) :
    Calls Tryd.prog 3 #[.string name, .string a, .string b, .int .i64 k] w fun e w' => e = .returned (.bool true) ∧ Below w.heap.size w w' := by
  have hlt : (1 : Nat) < w.heap.size := block_lt_of_cell hg
  have HK := Lib.hid hk
  have HG := Lib.hid hg
  have HLT := Lib.hid hlt
  clear hk hg hlt
  by_cases n1 : 60 < name.size
  · have E1 := Lib.hid (show decide (60 < name.size) = true by simp [n1])
    clear n1
    go_enter Tryd.func3, Tryd.ntmps3
    go_wp2_with fail
    refine (long_any name _).mono ?_
    rintro e w0 ⟨rfl, rfl⟩
    rw [E1.out]
    go_wp2
    go_ret
    exact ⟨rfl, Below.refl _ _⟩
  · have E1 := Lib.hid (show decide (60 < name.size) = false by simp; omega)
    by_cases n2 : 60 < a.size
    · have E2 := Lib.hid (show decide (60 < a.size) = true by simp [n2])
      clear n1 n2
      go_enter Tryd.func3, Tryd.ntmps3
      go_wp2_with fail
      refine (long_any name _).mono ?_
      rintro e w0 ⟨rfl, rfl⟩
      rw [E1.out]
      go_wp2_with fail
      refine (long_any a _).mono ?_
      rintro e w0 ⟨rfl, rfl⟩
      rw [E2.out]
      go_wp2
      go_ret
      exact ⟨rfl, Below.refl _ _⟩
    · have E2 := Lib.hid (show decide (60 < a.size) = false by simp; omega)
      by_cases n3 : 60 < b.size
      · have E3 := Lib.hid (show decide (60 < b.size) = true by simp [n3])
        clear n1 n2 n3
        go_enter Tryd.func3, Tryd.ntmps3
        go_wp2_with fail
        refine (long_any name _).mono ?_
        rintro e w0 ⟨rfl, rfl⟩
        rw [E1.out]
        go_wp2_with fail
        refine (long_any a _).mono ?_
        rintro e w0 ⟨rfl, rfl⟩
        rw [E2.out]
        go_wp2_with fail
        refine (long_any b _).mono ?_
        rintro e w0 ⟨rfl, rfl⟩
        rw [E3.out]
        go_wp2
        go_ret
        exact ⟨rfl, Below.refl _ _⟩
      · have E3 := Lib.hid (show decide (60 < b.size) = false by simp; omega)
        have HSZ := Lib.hid (show name.size ≤ 1000000 by omega)
        clear n1 n2 n3
        obtain ⟨x, n, h1⟩ : ∃ x n, ofAns name = (x, n) := ⟨_, _, rfl⟩
        obtain ⟨y, m, h2⟩ : ∃ y m, bitAns a k = (y, m) := ⟨_, _, rfl⟩
        obtain ⟨z, l, h3⟩ : ∃ z l, comAns a b = (z, l) := ⟨_, _, rfl⟩
        have H1 := Lib.hid h1
        have H2 := Lib.hid h2
        have H3 := Lib.hid h3
        clear h1 h2 h3
        obtain ⟨ok, hok⟩ : ∃ ok, nameOk name.data.toList = ok := ⟨_, rfl⟩
        have HOK := Lib.hid hok
        clear hok
        go_enter Tryd.func3, Tryd.ntmps3
        go_wp2_with fail
        refine (long_any name _).mono ?_
        rintro e w0 ⟨rfl, rfl⟩
        rw [E1.out]
        go_wp2_with fail
        refine (long_any a _).mono ?_
        rintro e w0 ⟨rfl, rfl⟩
        rw [E2.out]
        go_wp2_with fail
        refine (long_any b _).mono ?_
        rintro e w0 ⟨rfl, rfl⟩
        rw [E3.out]
        go_wp2_with fail
        refine (new_any _).mono ?_
        rintro e w1 ⟨r, rfl, hrb, hb1, hh1⟩
        have HB1 := Lib.hid hb1
        have HH1 := Lib.hid hh1
        clear hb1 hh1 hrb
        go_wp2_with fail
        refine (refOf_is r name x n _ HH1.out HSZ.out H1.out).mono ?_
        rintro e w2 ⟨rfl, hb2⟩
        have HB2 := Lib.hid (HB1.out.trans (hb2.mono HB1.out.size))
        clear hb2
        go_wp2_with fail
        refine (of_is name x n _ (HK.out.below HB2.out HK.out.lt) H1.out).mono ?_
        rintro e w3 ⟨rfl, hb3⟩
        have HB3 := Lib.hid (HB2.out.trans (hb3.mono HB2.out.size))
        clear hb3
        go_wp2_with fail
        refine (bare_same n _ ((HB3.out.cell HLT.out).trans HG.out)).mono ?_
        rintro e w4 ⟨rfl, hb4⟩
        have HB4 := Lib.hid (HB3.out.trans (hb4.mono HB3.out.size))
        clear hb4
        go_wp2_with fail
        refine (name_any name _).mono ?_
        rintro e w5 ⟨rfl, rfl⟩
        rw [HOK.out]
        go_wp2_with fail
        refine (refName_any name _ HSZ.out).mono ?_
        rintro e w5 ⟨rfl, rfl⟩
        rw [HOK.out]
        go_wp2_with fail
        refine (refBit_is a k y m _ H2.out).mono ?_
        rintro e w5 ⟨rfl, rfl⟩
        go_wp2_with fail
        refine (ixBit_is a k y m _ H2.out).mono ?_
        rintro e w5 ⟨rfl, rfl⟩
        go_wp2_with fail
        refine (bare_same m _ ((HB4.out.cell HLT.out).trans HG.out)).mono ?_
        rintro e w6 ⟨rfl, hb6⟩
        have HB6 := Lib.hid (HB4.out.trans (hb6.mono HB4.out.size))
        clear hb6
        go_wp2_with fail
        refine (refCommon_is a b z l _ H3.out).mono ?_
        rintro e w7 ⟨rfl, rfl⟩
        go_wp2_with fail
        refine (ixCommon_is a b z l _ H3.out).mono ?_
        rintro e w7 ⟨rfl, rfl⟩
        go_wp2_with fail
        refine (bare_same l _ ((HB6.out.cell HLT.out).trans HG.out)).mono ?_
        rintro e w8 ⟨rfl, hb8⟩
        have HB8 := Lib.hid (HB6.out.trans (hb8.mono HB6.out.size))
        clear hb8
        go_wp2
        go_ret
        exact ⟨rfl, HB8.out⟩
end Go.Proofs.YthbfmdgnhipobaaDoor
