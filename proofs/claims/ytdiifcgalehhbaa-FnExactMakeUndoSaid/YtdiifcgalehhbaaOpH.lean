/-
  The contracts of validOp of the model and of impl.ValidOp at every operation; what the exact law does with an operation (toOp, szOp); the walk of the law FnExactValidOp. For every operation; no condition.
-/
import Derived.Test.YtdiifcgalehhbaaOpC1
import Derived.Test.YtdiifcgalehhbaaOpC2
import Derived.Test.YtdiifcgalehhbaaOpC3
import Derived.Test.YtdiifcgalehhbaaOpC4
import Derived.Test.YtdiifcgalehhbaaOpC5
import Derived.Test.YtdiifcgalehhbaaOpG1
import Derived.Test.YtdiifcgalehhbaaOpG2
import Derived.Test.YtdiifcgalehhbaaOpG3
import Derived.Test.YtdiifcgalehhbaaOpG4
import Derived.Test.YtdiifcgalehhbaaOpG5
import Derived.Test.YtdiifcgalehhbaaK1
namespace Go.Proofs.Ytdiifcgalehhbaa.OpH
open Go.RowKit Go.Proofs.Ytdiifcgalehhbaa.Base Go.Proofs.Ytdiifcgalehhbaa.St Go.Proofs.Ytdiifcgalehhbaa.StB Go.Proofs.Ytdiifcgalehhbaa.OpA Go.Proofs.Ytdiifcgalehhbaa.OpW Go.Proofs.Ytdiifcgalehhbaa.OpB Go.Proofs.Ytdiifcgalehhbaa.OpC1 Go.Proofs.Ytdiifcgalehhbaa.OpC2 Go.Proofs.Ytdiifcgalehhbaa.OpC3 Go.Proofs.Ytdiifcgalehhbaa.OpC4 Go.Proofs.Ytdiifcgalehhbaa.OpC5 Go.Proofs.Ytdiifcgalehhbaa.OpG1 Go.Proofs.Ytdiifcgalehhbaa.OpG2 Go.Proofs.Ytdiifcgalehhbaa.OpG3 Go.Proofs.Ytdiifcgalehhbaa.OpG4 Go.Proofs.Ytdiifcgalehhbaa.OpG5 Go.Proofs.Ytdiifcgalehhbaa.OpT

theorem spec_validOp (o : OpV) (w : World) (hs : o.tx.size ≤ maxLen) :
    Calls Try.prog 22 #[.agg #[.int .i64 o.i, .int .i64 o.j, .int .i64 o.k, .int .i64 o.ts, .int .i64 o.ta, .int .i64 o.fs, .int .i64 o.fa, .int .i64 o.ns, .int .i64 o.na, .int .i64 o.v, .bool o.en, .string o.tx]] w fun e w' => e = .returned (.bool (vop o)) ∧ Below w.heap.size w w' := by
  obtain h | h | h | h | h | h | h | h | h | h | h : (o.k < 1 ∨ 10 < o.k) ∨ o.k = 1 ∨ o.k = 2 ∨ o.k = 3 ∨ o.k = 4 ∨ o.k = 5 ∨ o.k = 6 ∨ o.k = 7 ∨ o.k = 8 ∨ o.k = 9 ∨ o.k = 10 := by omega
  · exact spec_validOp0 o w h
  · exact spec_validOp1 o w h hs
  · exact spec_validOp2 o w h hs
  · exact spec_validOp3 o w h hs
  · exact spec_validOp4 o w h hs
  · exact spec_validOp5 o w h hs
  · exact spec_validOp6 o w h hs
  · exact spec_validOp7 o w h hs
  · exact spec_validOp8 o w h hs
  · exact spec_validOp9 o w h hs
  · exact spec_validOp10 o w h hs

theorem impl_ValidOp (o : OpV) (w : World) (hs : o.tx.size ≤ maxLen) :
    Calls Try.prog 47 #[.agg #[.int .i64 o.i, .int .i64 o.j, .int .i64 o.k, .int .i64 o.ts, .int .i64 o.ta, .int .i64 o.fs, .int .i64 o.fa, .int .i64 o.ns, .int .i64 o.na, .int .i64 o.v, .bool o.en, .string o.tx]] w fun e w' => e = .returned (.bool (vop o)) ∧ Below w.heap.size w w' := by
  obtain h | h | h | h | h | h | h | h | h | h | h : (o.k < 1 ∨ 10 < o.k) ∨ o.k = 1 ∨ o.k = 2 ∨ o.k = 3 ∨ o.k = 4 ∨ o.k = 5 ∨ o.k = 6 ∨ o.k = 7 ∨ o.k = 8 ∨ o.k = 9 ∨ o.k = 10 := by omega
  · exact impl_ValidOp0 o w h
  · exact impl_ValidOp1 o w h hs
  · exact impl_ValidOp2 o w h hs
  · exact impl_ValidOp3 o w h hs
  · exact impl_ValidOp4 o w h hs
  · exact impl_ValidOp5 o w h hs
  · exact impl_ValidOp6 o w h hs
  · exact impl_ValidOp7 o w h hs
  · exact impl_ValidOp8 o w h hs
  · exact impl_ValidOp9 o w h hs
  · exact impl_ValidOp10 o w h hs

end Go.Proofs.Ytdiifcgalehhbaa.OpH
