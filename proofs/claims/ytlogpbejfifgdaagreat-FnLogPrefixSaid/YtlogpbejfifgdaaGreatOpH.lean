/-
  The contracts of validOp of the model and of impl.ValidOp at every operation; what the exact law does with an operation (toOp, szOp); the walk of the law FnExactValidOp. For every operation; no condition.
-/
import Derived.Test.YtlogpbejfifgdaaGreatOpC1
import Derived.Test.YtlogpbejfifgdaaGreatOpC2
import Derived.Test.YtlogpbejfifgdaaGreatOpC3
import Derived.Test.YtlogpbejfifgdaaGreatOpC4
import Derived.Test.YtlogpbejfifgdaaGreatOpC5
import Derived.Test.YtlogpbejfifgdaaGreatOpG1
import Derived.Test.YtlogpbejfifgdaaGreatOpG2
import Derived.Test.YtlogpbejfifgdaaGreatOpG3
import Derived.Test.YtlogpbejfifgdaaGreatOpG4
import Derived.Test.YtlogpbejfifgdaaGreatOpG5
import Derived.Test.YtlogpbejfifgdaaGreatK1
namespace Go.Proofs.YtlogpbejfifgdaaGreat.OpH
open Go.RowKit Go.Proofs.YtlogpbejfifgdaaGreat.Base Go.Proofs.YtlogpbejfifgdaaGreat.St Go.Proofs.YtlogpbejfifgdaaGreat.StB Go.Proofs.YtlogpbejfifgdaaGreat.OpA Go.Proofs.YtlogpbejfifgdaaGreat.OpW Go.Proofs.YtlogpbejfifgdaaGreat.OpB Go.Proofs.YtlogpbejfifgdaaGreat.OpC1 Go.Proofs.YtlogpbejfifgdaaGreat.OpC2 Go.Proofs.YtlogpbejfifgdaaGreat.OpC3 Go.Proofs.YtlogpbejfifgdaaGreat.OpC4 Go.Proofs.YtlogpbejfifgdaaGreat.OpC5 Go.Proofs.YtlogpbejfifgdaaGreat.OpG1 Go.Proofs.YtlogpbejfifgdaaGreat.OpG2 Go.Proofs.YtlogpbejfifgdaaGreat.OpG3 Go.Proofs.YtlogpbejfifgdaaGreat.OpG4 Go.Proofs.YtlogpbejfifgdaaGreat.OpG5 Go.Proofs.YtlogpbejfifgdaaGreat.OpT

theorem spec_validOp (o : OpV) (w : World) (hs : o.tx.size ≤ maxLen) :
    Calls Tryz.prog 47 #[.agg #[.int .i64 o.i, .int .i64 o.j, .int .i64 o.k, .int .i64 o.ts, .int .i64 o.ta, .int .i64 o.fs, .int .i64 o.fa, .int .i64 o.ns, .int .i64 o.na, .int .i64 o.v, .bool o.en, .string o.tx]] w fun e w' => e = .returned (.bool (vop o)) ∧ Below w.heap.size w w' := by
  obtain h | h | h | h | h | h | h | h | h | h | h : (o.k < 1 ∨ 10 < o.k) ∨ o.k = 1 ∨ o.k = 2 ∨ o.k = 3 ∨ o.k = 4 ∨ o.k = 5 ∨ o.k = 6 ∨ o.k = 7 ∨ o.k = 8 ∨ o.k = 9 ∨ o.k = 10 := by omega
  · exact spec_validOp0 o w h
  · exact spec_validOp1 o w h hs
  · exact spec_validOp2 o w h hs
  · exact spec_validOp3 o w h hs
  · exact spec_validOp4 o w h hs
  · exact spec_validOp5 o w h hs
  · exact spec_validOp6 o w h hs
  · exact spec_validOp7 o w h hs
  · exact spec_validOp8 o w h hs
  · exact spec_validOp9 o w h hs
  · exact spec_validOp10 o w h hs

theorem impl_ValidOp (o : OpV) (w : World) (hs : o.tx.size ≤ maxLen) :
    Calls Tryz.prog 26 #[.agg #[.int .i64 o.i, .int .i64 o.j, .int .i64 o.k, .int .i64 o.ts, .int .i64 o.ta, .int .i64 o.fs, .int .i64 o.fa, .int .i64 o.ns, .int .i64 o.na, .int .i64 o.v, .bool o.en, .string o.tx]] w fun e w' => e = .returned (.bool (vop o)) ∧ Below w.heap.size w w' := by
  obtain h | h | h | h | h | h | h | h | h | h | h : (o.k < 1 ∨ 10 < o.k) ∨ o.k = 1 ∨ o.k = 2 ∨ o.k = 3 ∨ o.k = 4 ∨ o.k = 5 ∨ o.k = 6 ∨ o.k = 7 ∨ o.k = 8 ∨ o.k = 9 ∨ o.k = 10 := by omega
  · exact impl_ValidOp0 o w h
  · exact impl_ValidOp1 o w h hs
  · exact impl_ValidOp2 o w h hs
  · exact impl_ValidOp3 o w h hs
  · exact impl_ValidOp4 o w h hs
  · exact impl_ValidOp5 o w h hs
  · exact impl_ValidOp6 o w h hs
  · exact impl_ValidOp7 o w h hs
  · exact impl_ValidOp8 o w h hs
  · exact impl_ValidOp9 o w h hs
  · exact impl_ValidOp10 o w h hs

end Go.Proofs.YtlogpbejfifgdaaGreat.OpH
