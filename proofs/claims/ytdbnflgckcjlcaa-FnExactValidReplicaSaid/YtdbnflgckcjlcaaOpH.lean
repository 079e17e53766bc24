/-
  The contracts of validOp of the model and of impl.ValidOp at every operation; what the exact law does with an operation (toOp, szOp); the walk of the law FnExactValidOp. For every operation; no condition.
-/
import Derived.Test.YtdbnflgckcjlcaaOpC1
import Derived.Test.YtdbnflgckcjlcaaOpC2
import Derived.Test.YtdbnflgckcjlcaaOpC3
import Derived.Test.YtdbnflgckcjlcaaOpC4
import Derived.Test.YtdbnflgckcjlcaaOpC5
import Derived.Test.YtdbnflgckcjlcaaOpG1
import Derived.Test.YtdbnflgckcjlcaaOpG2
import Derived.Test.YtdbnflgckcjlcaaOpG3
import Derived.Test.YtdbnflgckcjlcaaOpG4
import Derived.Test.YtdbnflgckcjlcaaOpG5
import Derived.Test.YtdbnflgckcjlcaaK1
namespace Go.Proofs.Ytdbnflgckcjlcaa.OpH
open Go.RowKit Go.Proofs.Ytdbnflgckcjlcaa.Base Go.Proofs.Ytdbnflgckcjlcaa.St Go.Proofs.Ytdbnflgckcjlcaa.StB Go.Proofs.Ytdbnflgckcjlcaa.OpA Go.Proofs.Ytdbnflgckcjlcaa.OpW Go.Proofs.Ytdbnflgckcjlcaa.OpB Go.Proofs.Ytdbnflgckcjlcaa.OpC1 Go.Proofs.Ytdbnflgckcjlcaa.OpC2 Go.Proofs.Ytdbnflgckcjlcaa.OpC3 Go.Proofs.Ytdbnflgckcjlcaa.OpC4 Go.Proofs.Ytdbnflgckcjlcaa.OpC5 Go.Proofs.Ytdbnflgckcjlcaa.OpG1 Go.Proofs.Ytdbnflgckcjlcaa.OpG2 Go.Proofs.Ytdbnflgckcjlcaa.OpG3 Go.Proofs.Ytdbnflgckcjlcaa.OpG4 Go.Proofs.Ytdbnflgckcjlcaa.OpG5 Go.Proofs.Ytdbnflgckcjlcaa.OpT

theorem spec_validOp (o : OpV) (w : World) (hs : o.tx.size ≤ maxLen) :
    Calls Try.prog 60 #[.agg #[.int .i64 o.i, .int .i64 o.j, .int .i64 o.k, .int .i64 o.ts, .int .i64 o.ta, .int .i64 o.fs, .int .i64 o.fa, .int .i64 o.ns, .int .i64 o.na, .int .i64 o.v, .bool o.en, .string o.tx]] w fun e w' => e = .returned (.bool (vop o)) ∧ Below w.heap.size w w' := by
  obtain h | h | h | h | h | h | h | h | h | h | h : (o.k < 1 ∨ 10 < o.k) ∨ o.k = 1 ∨ o.k = 2 ∨ o.k = 3 ∨ o.k = 4 ∨ o.k = 5 ∨ o.k = 6 ∨ o.k = 7 ∨ o.k = 8 ∨ o.k = 9 ∨ o.k = 10 := by omega
  · exact spec_validOp0 o w h
  · exact spec_validOp1 o w h hs
  · exact spec_validOp2 o w h hs
  · exact spec_validOp3 o w h hs
  · exact spec_validOp4 o w h hs
  · exact spec_validOp5 o w h hs
  · exact spec_validOp6 o w h hs
  · exact spec_validOp7 o w h hs
  · exact spec_validOp8 o w h hs
  · exact spec_validOp9 o w h hs
  · exact spec_validOp10 o w h hs

theorem impl_ValidOp (o : OpV) (w : World) (hs : o.tx.size ≤ maxLen) :
    Calls Try.prog 70 #[.agg #[.int .i64 o.i, .int .i64 o.j, .int .i64 o.k, .int .i64 o.ts, .int .i64 o.ta, .int .i64 o.fs, .int .i64 o.fa, .int .i64 o.ns, .int .i64 o.na, .int .i64 o.v, .bool o.en, .string o.tx]] w fun e w' => e = .returned (.bool (vop o)) ∧ Below w.heap.size w w' := by
  obtain h | h | h | h | h | h | h | h | h | h | h : (o.k < 1 ∨ 10 < o.k) ∨ o.k = 1 ∨ o.k = 2 ∨ o.k = 3 ∨ o.k = 4 ∨ o.k = 5 ∨ o.k = 6 ∨ o.k = 7 ∨ o.k = 8 ∨ o.k = 9 ∨ o.k = 10 := by omega
  · exact impl_ValidOp0 o w h
  · exact impl_ValidOp1 o w h hs
  · exact impl_ValidOp2 o w h hs
  · exact impl_ValidOp3 o w h hs
  · exact impl_ValidOp4 o w h hs
  · exact impl_ValidOp5 o w h hs
  · exact impl_ValidOp6 o w h hs
  · exact impl_ValidOp7 o w h hs
  · exact impl_ValidOp8 o w h hs
  · exact impl_ValidOp9 o w h hs
  · exact impl_ValidOp10 o w h hs

end Go.Proofs.Ytdbnflgckcjlcaa.OpH
