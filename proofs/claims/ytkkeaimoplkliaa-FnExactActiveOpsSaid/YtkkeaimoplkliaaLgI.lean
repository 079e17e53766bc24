/-
  The walk of the law FnExactValidLog: it returns true at every slice of operations. No condition.
-/
import Derived.Test.YtkkeaimoplkliaaLgH
import Derived.Test.YtkkeaimoplkliaaLgE
import Derived.Test.YtkkeaimoplkliaaOpH
namespace Go.Proofs.Ytkkeaimoplkliaa.LgI
open Go.RowKit Go.Proofs.Ytkkeaimoplkliaa.Base Go.Proofs.Ytkkeaimoplkliaa.St Go.Proofs.Ytkkeaimoplkliaa.StB Go.Proofs.Ytkkeaimoplkliaa.OpA Go.Proofs.Ytkkeaimoplkliaa.OpW Go.Proofs.Ytkkeaimoplkliaa.OpB Go.Proofs.Ytkkeaimoplkliaa.OpT Go.Proofs.Ytkkeaimoplkliaa.LgA Go.Proofs.Ytkkeaimoplkliaa.LgB Go.Proofs.Ytkkeaimoplkliaa.LgC Go.Proofs.Ytkkeaimoplkliaa.LgD Go.Proofs.Ytkkeaimoplkliaa.LgE Go.Proofs.Ytkkeaimoplkliaa.LgF Go.Proofs.Ytkkeaimoplkliaa.LgG Go.Proofs.Ytkkeaimoplkliaa.LgH
set_option linter.unusedVariables false

theorem svop : SVop := fun o w hs => OpH.spec_validOp o w hs
theorem ivop : IVop := fun o w hs => OpH.impl_ValidOp o w hs

theorem spec_ValidLog (a : Option Addr) (c : Nat) (os : List OpV) (w : World) (hr : RdO w a os) (hl : os.length ≤ 1048576) (ht : ∀ k, k < os.length → (os.getD k zop).tx.size ≤ maxLen) :
    Calls Try.prog 20 #[.slice a os.length c] w fun e w' => e = .returned (.bool (vlog os)) ∧ Below w.heap.size w w' := by
  have HV := Lib.hid (spec_validLog svop a c os w hr hl ht)
  clear hr hl ht
  go_enter Try.func20, Try.ntmps20
  go_wp2_with fail
  refine HV.out.mono ?_
  rintro e w1 ⟨rfl, hb1⟩
  go_wp2
  go_ret
  exact ⟨rfl, hb1⟩

set_option maxRecDepth 100000 in
theorem walkValidLog (a : Option Addr) (c : Nat) (os : List OpV) (w : World) (hr : RdO w a os) (hm : os.length ≤ maxLen) (ht : ∀ k, k < os.length → (os.getD k zop).tx.size ≤ maxLen) :
    Calls Try.prog 4 #[.slice a os.length c] w fun e w' => e = .returned (.bool true) ∧ Below w.heap.size w w' := by
  have HZ := Lib.hid (szOpS a c os 1048576 w hr hm ht (by omega))
  have HT := Lib.hid ht
  have HR := Lib.hid hr
  clear ht hr hm
  go_enter Try.func4, Try.ntmps4
  go_wp2_with fail
  refine HZ.out.mono ?_
  rintro e w1 ⟨hz, bel1⟩
  rcases hz with rfl | ⟨left, hl0, hl1, hl2, rfl⟩
  · go_wp2
    go_ret
    exact ⟨rfl, bel1⟩
  · have hl : os.length ≤ 1048576 := by omega
    have hz1 := bel1.size
    go_wp2_with fail
    refine (toOpS _ _ os _ (HR.out.below bel1) hl).mono ?_
    rintro e w2 ⟨b2, rfl, hb2, hown2, bel2⟩
    have hz2 := bel2.size
    have bel02 := bel1.trans (bel2.mono hz1)
    go_wp2_with fail
    refine (spec_ValidLog _ _ os _ hown2.rd hl HT.out).mono ?_
    rintro e w3 ⟨rfl, bel3⟩
    have hz3 := bel3.size
    have bel03 := bel02.trans (bel3.mono (by omega))
    clear hown2
    go_wp2_with fail
    refine (toOpS _ _ os _ (HR.out.below bel03) hl).mono ?_
    rintro e w4 ⟨b4, rfl, hb4, hown4, bel4⟩
    have hz4 := bel4.size
    have bel04 := bel03.trans (bel4.mono (by omega))
    go_wp2_with fail
    refine (impl_ValidLog ivop _ _ os _ hown4.rd hl HT.out).mono ?_
    rintro e w5 ⟨rfl, bel5⟩
    have hz5 := bel5.size
    have bel05 := bel04.trans (bel5.mono (by omega))
    have hown5 := hown4.below bel5
    clear hown4
    go_wp2_with fail
    refine (toOpS _ _ os _ (HR.out.below bel05) hl).mono ?_
    rintro e w6 ⟨b6, rfl, hb6, hown6, bel6⟩
    have hz6 := bel6.size
    have bel06 := bel05.trans (bel6.mono (by omega))
    have hown5' := hown5.below bel6
    clear hown5
    go_wp2_with fail
    refine (eqOpS _ _ _ _ os _ hown5'.rd hown6.rd hl).mono ?_
    rintro e w7 ⟨rfl, bel7⟩
    go_wp2
    go_ret
    exact ⟨rfl, bel06.trans (bel7.mono (by omega))⟩

end Go.Proofs.Ytkkeaimoplkliaa.LgI
