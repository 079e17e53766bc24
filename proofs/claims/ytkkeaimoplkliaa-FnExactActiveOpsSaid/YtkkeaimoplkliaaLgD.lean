/-
  eqOp and eqOpS of the exact laws at equal operations, and at two slices that read as one list: they answer true. For every operation; slices of at most 2^20.
-/
import Derived.Test.YtkkeaimoplkliaaLgC
namespace Go.Proofs.Ytkkeaimoplkliaa.LgD
open Go.RowKit Go.Proofs.Ytkkeaimoplkliaa.Base Go.Proofs.Ytkkeaimoplkliaa.St Go.Proofs.Ytkkeaimoplkliaa.StB Go.Proofs.Ytkkeaimoplkliaa.OpA Go.Proofs.Ytkkeaimoplkliaa.OpW Go.Proofs.Ytkkeaimoplkliaa.OpB Go.Proofs.Ytkkeaimoplkliaa.OpT Go.Proofs.Ytkkeaimoplkliaa.LgA Go.Proofs.Ytkkeaimoplkliaa.LgB Go.Proofs.Ytkkeaimoplkliaa.LgC
set_option linter.unusedVariables false

theorem eqStamp_refl (s a : Int) (w : World) :
    Calls Try.prog 93 #[.agg #[.int .i64 s, .int .i64 a], .agg #[.int .i64 s, .int .i64 a]] w fun e w' => e = .returned (.bool true) ∧ Below w.heap.size w w' := by
  go_enter Try.func93, Try.ntmps93
  go_wp2
  go_ret
  exact ⟨rfl, ((Below.refl _ _).alloc (Nat.le_refl _) _).alloc (by simp) _⟩

set_option maxRecDepth 100000 in
set_option maxHeartbeats 1000000 in
theorem eqOp_refl (o : OpV) (w : World) :
    Calls Try.prog 61 #[.agg #[.int .i64 o.i, .int .i64 o.j, .int .i64 o.k, .int .i64 o.ts, .int .i64 o.ta, .int .i64 o.fs, .int .i64 o.fa, .int .i64 o.ns, .int .i64 o.na, .int .i64 o.v, .bool o.en, .string o.tx], .agg #[.int .i64 o.i, .int .i64 o.j, .int .i64 o.k, .int .i64 o.ts, .int .i64 o.ta, .int .i64 o.fs, .int .i64 o.fa, .int .i64 o.ns, .int .i64 o.na, .int .i64 o.v, .bool o.en, .string o.tx]] w fun e w' => e = .returned (.bool true) ∧ Below w.heap.size w w' := by
  have B0 : Below w.heap.size w ((w.alloc (.cells #[.int .i64 o.i, .int .i64 o.j, .int .i64 o.k, .int .i64 o.ts, .int .i64 o.ta, .int .i64 o.fs, .int .i64 o.fa, .int .i64 o.ns, .int .i64 o.na, .int .i64 o.v, .bool o.en, .string o.tx] 30)).alloc (.cells #[.int .i64 o.i, .int .i64 o.j, .int .i64 o.k, .int .i64 o.ts, .int .i64 o.ta, .int .i64 o.fs, .int .i64 o.fa, .int .i64 o.ns, .int .i64 o.na, .int .i64 o.v, .bool o.en, .string o.tx] 30)) := ((Below.refl _ _).alloc (Nat.le_refl _) _).alloc (by simp) _
  have hz0 : w.heap.size + 1 < ((w.alloc (.cells #[.int .i64 o.i, .int .i64 o.j, .int .i64 o.k, .int .i64 o.ts, .int .i64 o.ta, .int .i64 o.fs, .int .i64 o.fa, .int .i64 o.ns, .int .i64 o.na, .int .i64 o.v, .bool o.en, .string o.tx] 30)).alloc (.cells #[.int .i64 o.i, .int .i64 o.j, .int .i64 o.k, .int .i64 o.ts, .int .i64 o.ta, .int .i64 o.fs, .int .i64 o.fa, .int .i64 o.ns, .int .i64 o.na, .int .i64 o.v, .bool o.en, .string o.tx] 30)).heap.size := by simp
  go_enter Try.func61, Try.ntmps61
  go_wp2_with fail
  refine (eqStamp_refl _ _ _).mono ?_
  rintro e w1 ⟨rfl, hb1⟩
  obtain ⟨B1, hz1, hc1, hd1⟩ := nextW2 B0 hz0 hb1
  go_wp2_with fail
  refine (eqStamp_refl _ _ _).mono ?_
  rintro e w2 ⟨rfl, hb2⟩
  obtain ⟨B2, hz2, hc2, hd2⟩ := nextW2 B1 hz1 hb2
  go_wp2_with fail
  refine (eqStamp_refl _ _ _).mono ?_
  rintro e w3 ⟨rfl, hb3⟩
  obtain ⟨B3, hz3, hc3, hd3⟩ := nextW2 B2 hz2 hb3
  go_wp2_with fail
  refine (eqStamp_refl _ _ _).mono ?_
  rintro e w4 ⟨rfl, hb4⟩
  obtain ⟨B4, hz4, hc4, hd4⟩ := nextW2 B3 hz3 hb4
  go_wp2
  go_ret
  exact ⟨rfl, B4⟩

end Go.Proofs.Ytkkeaimoplkliaa.LgD
