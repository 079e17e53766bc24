/-
  The walk of the law FnExactValidRows: it returns true at every slice of rows. No condition.
-/
import Derived.Test.YtmhflifaeplalaaVrC
import Derived.Test.YtmhflifaeplalaaVrD
namespace Go.Proofs.Ytmhflifaeplalaa.VrE
open Go.RowKit Go.Proofs.Ytmhflifaeplalaa.Base Go.Proofs.Ytmhflifaeplalaa.GsA Go.Proofs.Ytmhflifaeplalaa.GwB Go.Proofs.Ytmhflifaeplalaa.VrA Go.Proofs.Ytmhflifaeplalaa.VrC Go.Proofs.Ytmhflifaeplalaa.VrD
set_option linter.unusedVariables false

theorem walk (a : Option Addr) (c : Nat) (xs : List RowV) (w : World) (hr : RdG ERow w a xs) (hm : xs.length ≤ maxLen) (ht : ∀ k, k < xs.length → (xs.getD k zRow).tx.size ≤ maxLen) (hi : ∀ k, k < xs.length → (Lit.int .i64 (xs.getD k zRow).k).wf = true ∧ (Lit.int .i64 (xs.getD k zRow).d).wf = true) :
    Calls Try.prog 5 #[.slice a xs.length c] w fun e w' => e = .returned (.bool true) ∧ Below w.heap.size w w' := by
  have HZ := Lib.hid (szRowS a c xs 1048576 w hr hm ht (by omega))
  have HR := Lib.hid hr
  clear ht hr hm hi
  go_enter Try.func5, Try.ntmps5
  go_wp2_with fail
  refine HZ.out.mono ?_
  rintro e w1 ⟨hz, bel1⟩
  rcases hz with rfl | ⟨left, hl0, hl1, hl2, rfl⟩
  · go_wp2
    go_ret
    exact ⟨rfl, bel1⟩
  · have hl : xs.length ≤ 1048576 := by omega
    clear hl2
    have hz1 := bel1.size
    go_wp2_with fail
    refine (toRowS _ _ xs _ (HR.out.below bel1) hl).mono ?_
    rintro e w2 ⟨b2, rfl, hb2, hown2, bel2⟩
    have hz2 := bel2.size
    have bel02 := bel1.trans (bel2.mono hz1)
    have HS := Lib.hid (fun a c w h => spec_ValidRows a c xs w h hl)
    have HI := Lib.hid (fun a c w h => impl_ValidRows a c xs w h hl)
    generalize okTo xs xs.length = res at HS HI
    go_wp2_with fail
    refine (HS.out _ _ _ hown2.rd).mono ?_
    rintro e w3 ⟨rfl, bel3⟩
    have hz3 := bel3.size
    have bel03 := bel02.trans (bel3.mono (by omega))
    clear hown2
    go_wp2_with fail
    refine (toRowS _ _ xs _ (HR.out.below bel03) hl).mono ?_
    rintro e w4 ⟨b4, rfl, hb4, hown4, bel4⟩
    have hz4 := bel4.size
    have bel04 := bel03.trans (bel4.mono (by omega))
    go_wp2_with fail
    refine (HI.out _ _ _ hown4.rd).mono ?_
    rintro e w5 ⟨rfl, bel5⟩
    have hz5 := bel5.size
    have bel05 := bel04.trans (bel5.mono (by omega))
    have hown5 := hown4.below bel5
    clear hown4
    go_wp2_with fail
    refine (toRowS _ _ xs _ (HR.out.below bel05) hl).mono ?_
    rintro e w6 ⟨b6, rfl, hb6, hown6, bel6⟩
    have hz6 := bel6.size
    have bel06 := bel05.trans (bel6.mono (by omega))
    have hown5' := hown5.below bel6
    clear hown5
    go_wp2_with fail
    refine (eqRowS _ _ _ _ xs _ hown5'.rd hown6.rd hl).mono ?_
    rintro e w7 ⟨rfl, bel7⟩
    go_wp2
    go_ret
    exact ⟨rfl, bel06.trans (bel7.mono (by omega))⟩

end Go.Proofs.Ytmhflifaeplalaa.VrE
