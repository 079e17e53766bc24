/-
  The contracts of validOp of the model and of impl.ValidOp at every operation; what the exact law does with an operation (toOp, szOp); the walk of the law FnExactValidOp. For every operation; no condition.
-/
import Derived.Test.YtlogpbejfifgdaaOpC1
import Derived.Test.YtlogpbejfifgdaaOpC2
import Derived.Test.YtlogpbejfifgdaaOpC3
import Derived.Test.YtlogpbejfifgdaaOpC4
import Derived.Test.YtlogpbejfifgdaaOpC5
import Derived.Test.YtlogpbejfifgdaaOpG1
import Derived.Test.YtlogpbejfifgdaaOpG2
import Derived.Test.YtlogpbejfifgdaaOpG3
import Derived.Test.YtlogpbejfifgdaaOpG4
import Derived.Test.YtlogpbejfifgdaaOpG5
import Derived.Test.YtlogpbejfifgdaaK1
namespace Go.Proofs.Ytlogpbejfifgdaa.OpH
open Go.RowKit Go.Proofs.Ytlogpbejfifgdaa.Base Go.Proofs.Ytlogpbejfifgdaa.St Go.Proofs.Ytlogpbejfifgdaa.StB Go.Proofs.Ytlogpbejfifgdaa.OpA Go.Proofs.Ytlogpbejfifgdaa.OpW Go.Proofs.Ytlogpbejfifgdaa.OpB Go.Proofs.Ytlogpbejfifgdaa.OpC1 Go.Proofs.Ytlogpbejfifgdaa.OpC2 Go.Proofs.Ytlogpbejfifgdaa.OpC3 Go.Proofs.Ytlogpbejfifgdaa.OpC4 Go.Proofs.Ytlogpbejfifgdaa.OpC5 Go.Proofs.Ytlogpbejfifgdaa.OpG1 Go.Proofs.Ytlogpbejfifgdaa.OpG2 Go.Proofs.Ytlogpbejfifgdaa.OpG3 Go.Proofs.Ytlogpbejfifgdaa.OpG4 Go.Proofs.Ytlogpbejfifgdaa.OpG5 Go.Proofs.Ytlogpbejfifgdaa.OpT

theorem spec_validOp (o : OpV) (w : World) (hs : o.tx.size ≤ maxLen) :
    Calls Try.prog 66 #[.agg #[.int .i64 o.i, .int .i64 o.j, .int .i64 o.k, .int .i64 o.ts, .int .i64 o.ta, .int .i64 o.fs, .int .i64 o.fa, .int .i64 o.ns, .int .i64 o.na, .int .i64 o.v, .bool o.en, .string o.tx]] w fun e w' => e = .returned (.bool (vop o)) ∧ Below w.heap.size w w' := by
  obtain h | h | h | h | h | h | h | h | h | h | h : (o.k < 1 ∨ 10 < o.k) ∨ o.k = 1 ∨ o.k = 2 ∨ o.k = 3 ∨ o.k = 4 ∨ o.k = 5 ∨ o.k = 6 ∨ o.k = 7 ∨ o.k = 8 ∨ o.k = 9 ∨ o.k = 10 := by omega
  · exact spec_validOp0 o w h
  · exact spec_validOp1 o w h hs
  · exact spec_validOp2 o w h hs
  · exact spec_validOp3 o w h hs
  · exact spec_validOp4 o w h hs
  · exact spec_validOp5 o w h hs
  · exact spec_validOp6 o w h hs
  · exact spec_validOp7 o w h hs
  · exact spec_validOp8 o w h hs
  · exact spec_validOp9 o w h hs
  · exact spec_validOp10 o w h hs

theorem impl_ValidOp (o : OpV) (w : World) (hs : o.tx.size ≤ maxLen) :
    Calls Try.prog 56 #[.agg #[.int .i64 o.i, .int .i64 o.j, .int .i64 o.k, .int .i64 o.ts, .int .i64 o.ta, .int .i64 o.fs, .int .i64 o.fa, .int .i64 o.ns, .int .i64 o.na, .int .i64 o.v, .bool o.en, .string o.tx]] w fun e w' => e = .returned (.bool (vop o)) ∧ Below w.heap.size w w' := by
  obtain h | h | h | h | h | h | h | h | h | h | h : (o.k < 1 ∨ 10 < o.k) ∨ o.k = 1 ∨ o.k = 2 ∨ o.k = 3 ∨ o.k = 4 ∨ o.k = 5 ∨ o.k = 6 ∨ o.k = 7 ∨ o.k = 8 ∨ o.k = 9 ∨ o.k = 10 := by omega
  · exact impl_ValidOp0 o w h
  · exact impl_ValidOp1 o w h hs
  · exact impl_ValidOp2 o w h hs
  · exact impl_ValidOp3 o w h hs
  · exact impl_ValidOp4 o w h hs
  · exact impl_ValidOp5 o w h hs
  · exact impl_ValidOp6 o w h hs
  · exact impl_ValidOp7 o w h hs
  · exact impl_ValidOp8 o w h hs
  · exact impl_ValidOp9 o w h hs
  · exact impl_ValidOp10 o w h hs

theorem spec_ValidOp (o : OpV) (w : World) (hs : o.tx.size ≤ maxLen) :
    Calls Try.prog 57 #[.agg #[.int .i64 o.i, .int .i64 o.j, .int .i64 o.k, .int .i64 o.ts, .int .i64 o.ta, .int .i64 o.fs, .int .i64 o.fa, .int .i64 o.ns, .int .i64 o.na, .int .i64 o.v, .bool o.en, .string o.tx]] w fun e w' => e = .returned (.bool (vop o)) ∧ Below w.heap.size w w' := by
  have HV := Lib.hid (fun w => spec_validOp o w hs)
  go_enter Try.func57, Try.ntmps57
  go_wp2_with fail
  refine (HV.out _).mono ?_
  rintro e w1 ⟨rfl, hb1⟩
  go_wp2
  go_ret
  exact ⟨rfl, ((Below.refl _ _).alloc (Nat.le_refl _) _).trans (hb1.mono (by simp))⟩

end Go.Proofs.Ytlogpbejfifgdaa.OpH
