/-
  Contracts of spec.ValidStamp, of the comparing of stamps in both packages, and the walks of the laws FnExactValidStamp and FnExactStampLess. For every argument; no condition.
-/
import Derived.Test.YtmjpblgnlbjejaaSt
namespace Go.Proofs.Ytmjpblgnlbjejaa.StA
open Go.RowKit Go.Proofs.Ytmjpblgnlbjejaa.Base Go.Proofs.Ytmjpblgnlbjejaa.St

theorem spec_ValidStamp (s a : Int) (w : World) :
    Calls Try.prog 13 #[.agg #[.int .i64 s, .int .i64 a]] w fun e w' => e = .returned (.bool (vst s a)) ∧ Below w.heap.size w w' := by
  go_enter Try.func13, Try.ntmps13
  go_wp2_with (go_at_call 40; refine (spec_validStamp _ _ _).mono ?_; rintro e w1 ⟨rfl, hb1⟩)
  go_ret
  exact ⟨rfl, ((Below.refl _ _).alloc (Nat.le_refl _) _).trans (hb1.mono (by simp))⟩

theorem walkValidStamp (s a : Int) (_hs : (Lit.int .i64 s).wf = true) (_ha : (Lit.int .i64 a).wf = true) (w : World) :
    Calls Try.prog 3 #[.agg #[.int .i64 s, .int .i64 a]] w fun e w' => e = .returned (.bool true) ∧ Below w.heap.size w w' := by
  go_enter Try.func3, Try.ntmps3
  go_wp2_with fail
  refine (toStamp _ _ _).mono ?_
  rintro e w1 ⟨rfl, hb1⟩
  obtain ⟨hc1, hf1⟩ := oldCells hb1
  have hz1 : w.heap.size < w1.heap.size := by have := hb1.size; simp at this; omega
  go_wp2_with fail
  refine (spec_ValidStamp _ _ _).mono ?_
  rintro e w2 ⟨rfl, hb2⟩
  obtain ⟨hc2, hf2⟩ := oldCells hb2
  have hz2 : w.heap.size < w2.heap.size := by have := hb2.size; omega
  go_wp2_with fail
  refine (toStamp _ _ _).mono ?_
  rintro e w3 ⟨rfl, hb3⟩
  obtain ⟨hc3, hf3⟩ := oldCells hb3
  go_wp2_with fail
  refine (impl_ValidStamp _ _ _).mono ?_
  rintro e w4 ⟨rfl, hb4⟩
  go_wp2
  go_ret
  exact ⟨rfl, ((((Below.refl _ _).alloc (Nat.le_refl _) _).trans (hb1.mono (by simp))).trans (hb2.mono (by omega))).trans ((hb3.mono (by omega)).trans (hb4.mono (by have := hb3.size; omega)))⟩

end Go.Proofs.Ytmjpblgnlbjejaa.StA
