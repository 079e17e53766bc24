/-
  The contracts of validOp of the model and of impl.ValidOp at every operation; what the exact law does with an operation (toOp, szOp); the walk of the law FnExactValidOp. For every operation; no condition.
-/
import Derived.Test.YtkkeaimoplkliaaOpC1
import Derived.Test.YtkkeaimoplkliaaOpC2
import Derived.Test.YtkkeaimoplkliaaOpC3
import Derived.Test.YtkkeaimoplkliaaOpC4
import Derived.Test.YtkkeaimoplkliaaOpC5
import Derived.Test.YtkkeaimoplkliaaOpG1
import Derived.Test.YtkkeaimoplkliaaOpG2
import Derived.Test.YtkkeaimoplkliaaOpG3
import Derived.Test.YtkkeaimoplkliaaOpG4
import Derived.Test.YtkkeaimoplkliaaOpG5
import Derived.Test.YtkkeaimoplkliaaOpT
import Derived.Test.YtkkeaimoplkliaaOpen
namespace Go.Proofs.Ytkkeaimoplkliaa.OpH
open Go.RowKit Go.Proofs.Ytkkeaimoplkliaa.Base Go.Proofs.Ytkkeaimoplkliaa.St Go.Proofs.Ytkkeaimoplkliaa.StB Go.Proofs.Ytkkeaimoplkliaa.OpA Go.Proofs.Ytkkeaimoplkliaa.OpW Go.Proofs.Ytkkeaimoplkliaa.OpB Go.Proofs.Ytkkeaimoplkliaa.OpC1 Go.Proofs.Ytkkeaimoplkliaa.OpC2 Go.Proofs.Ytkkeaimoplkliaa.OpC3 Go.Proofs.Ytkkeaimoplkliaa.OpC4 Go.Proofs.Ytkkeaimoplkliaa.OpC5 Go.Proofs.Ytkkeaimoplkliaa.OpG1 Go.Proofs.Ytkkeaimoplkliaa.OpG2 Go.Proofs.Ytkkeaimoplkliaa.OpG3 Go.Proofs.Ytkkeaimoplkliaa.OpG4 Go.Proofs.Ytkkeaimoplkliaa.OpG5 Go.Proofs.Ytkkeaimoplkliaa.OpT

theorem spec_validOp (o : OpV) (w : World) (hs : o.tx.size ≤ maxLen) :
    Calls Try.prog 53 #[.agg #[.int .i64 o.i, .int .i64 o.j, .int .i64 o.k, .int .i64 o.ts, .int .i64 o.ta, .int .i64 o.fs, .int .i64 o.fa, .int .i64 o.ns, .int .i64 o.na, .int .i64 o.v, .bool o.en, .string o.tx]] w fun e w' => e = .returned (.bool (vop o)) ∧ Below w.heap.size w w' := by
  obtain h | h | h | h | h | h | h | h | h | h | h : (o.k < 1 ∨ 10 < o.k) ∨ o.k = 1 ∨ o.k = 2 ∨ o.k = 3 ∨ o.k = 4 ∨ o.k = 5 ∨ o.k = 6 ∨ o.k = 7 ∨ o.k = 8 ∨ o.k = 9 ∨ o.k = 10 := by omega
  · exact spec_validOp0 o w h
  · exact spec_validOp1 o w h hs
  · exact spec_validOp2 o w h hs
  · exact spec_validOp3 o w h hs
  · exact spec_validOp4 o w h hs
  · exact spec_validOp5 o w h hs
  · exact spec_validOp6 o w h hs
  · exact spec_validOp7 o w h hs
  · exact spec_validOp8 o w h hs
  · exact spec_validOp9 o w h hs
  · exact spec_validOp10 o w h hs

theorem impl_ValidOp (o : OpV) (w : World) (hs : o.tx.size ≤ maxLen) :
    Calls Try.prog 18 #[.agg #[.int .i64 o.i, .int .i64 o.j, .int .i64 o.k, .int .i64 o.ts, .int .i64 o.ta, .int .i64 o.fs, .int .i64 o.fa, .int .i64 o.ns, .int .i64 o.na, .int .i64 o.v, .bool o.en, .string o.tx]] w fun e w' => e = .returned (.bool (vop o)) ∧ Below w.heap.size w w' := by
  obtain h | h | h | h | h | h | h | h | h | h | h : (o.k < 1 ∨ 10 < o.k) ∨ o.k = 1 ∨ o.k = 2 ∨ o.k = 3 ∨ o.k = 4 ∨ o.k = 5 ∨ o.k = 6 ∨ o.k = 7 ∨ o.k = 8 ∨ o.k = 9 ∨ o.k = 10 := by omega
  · exact impl_ValidOp0 o w h
  · exact impl_ValidOp1 o w h hs
  · exact impl_ValidOp2 o w h hs
  · exact impl_ValidOp3 o w h hs
  · exact impl_ValidOp4 o w h hs
  · exact impl_ValidOp5 o w h hs
  · exact impl_ValidOp6 o w h hs
  · exact impl_ValidOp7 o w h hs
  · exact impl_ValidOp8 o w h hs
  · exact impl_ValidOp9 o w h hs
  · exact impl_ValidOp10 o w h hs

theorem spec_ValidOp (o : OpV) (w : World) (hs : o.tx.size ≤ maxLen) :
    Calls Try.prog 16 #[.agg #[.int .i64 o.i, .int .i64 o.j, .int .i64 o.k, .int .i64 o.ts, .int .i64 o.ta, .int .i64 o.fs, .int .i64 o.fa, .int .i64 o.ns, .int .i64 o.na, .int .i64 o.v, .bool o.en, .string o.tx]] w fun e w' => e = .returned (.bool (vop o)) ∧ Below w.heap.size w w' := by
  have HV := Lib.hid (fun w => spec_validOp o w hs)
  go_enter Try.func16, Try.ntmps16
  go_wp2_with fail
  refine (HV.out _).mono ?_
  rintro e w1 ⟨rfl, hb1⟩
  go_wp2
  go_ret
  exact ⟨rfl, ((Below.refl _ _).alloc (Nat.le_refl _) _).trans (hb1.mono (by simp))⟩

theorem walkValidOp (o : OpV) (w : World) (hs : o.tx.size ≤ maxLen) :
    Calls Try.prog 3 #[.agg #[.int .i64 o.i, .int .i64 o.j, .int .i64 o.k, .int .i64 o.ts, .int .i64 o.ta, .int .i64 o.fs, .int .i64 o.fa, .int .i64 o.ns, .int .i64 o.na, .int .i64 o.v, .bool o.en, .string o.tx]] w fun e w' => e = .returned (.bool true) ∧ Below w.heap.size w w' := by
  have HS := Lib.hid (fun w => spec_ValidOp o w hs)
  have HI := Lib.hid (fun w => impl_ValidOp o w hs)
  have HT := Lib.hid (fun w => toOp o w)
  have HZ := Lib.hid (fun w => szOp o 1048576 w hs (by omega))
  have B0 : Below w.heap.size w (w.alloc (.cells #[.int .i64 o.i, .int .i64 o.j, .int .i64 o.k, .int .i64 o.ts, .int .i64 o.ta, .int .i64 o.fs, .int .i64 o.fa, .int .i64 o.ns, .int .i64 o.na, .int .i64 o.v, .bool o.en, .string o.tx] 25)) := (Below.refl _ _).alloc (Nat.le_refl _) _
  have hz0 : w.heap.size < (w.alloc (.cells #[.int .i64 o.i, .int .i64 o.j, .int .i64 o.k, .int .i64 o.ts, .int .i64 o.ta, .int .i64 o.fs, .int .i64 o.fa, .int .i64 o.ns, .int .i64 o.na, .int .i64 o.v, .bool o.en, .string o.tx] 25)).heap.size := by simp
  by_cases hb : o.tx.size ≤ 1048576
  · have hsz : szV o 1048576 = 1048576 - o.tx.size := by unfold szV; rw [if_neg (by omega)]
    rw [hsz] at HZ
    clear hsz
    go_enter Try.func3, Try.ntmps3
    go_wp2_with fail
    refine (HZ.out _).mono ?_
    rintro e w1 ⟨rfl, hb1⟩
    obtain ⟨B1, hz1, hc1⟩ := nextW B0 hz0 hb1
    go_wp2_with fail
    refine (HT.out _).mono ?_
    rintro e w2 ⟨rfl, hb2⟩
    obtain ⟨B2, hz2, hc2⟩ := nextW B1 hz1 hb2
    go_wp2_with fail
    refine (HS.out _).mono ?_
    rintro e w3 ⟨rfl, hb3⟩
    obtain ⟨B3, hz3, hc3⟩ := nextW B2 hz2 hb3
    go_wp2_with fail
    refine (HT.out _).mono ?_
    rintro e w4 ⟨rfl, hb4⟩
    obtain ⟨B4, hz4, hc4⟩ := nextW B3 hz3 hb4
    go_wp2_with fail
    refine (HI.out _).mono ?_
    rintro e w5 ⟨rfl, hb5⟩
    obtain ⟨B5, hz5, hc5⟩ := nextW B4 hz4 hb5
    go_wp2
    go_ret
    exact ⟨rfl, B5⟩
  · have hsz : szV o 1048576 = -1 := by unfold szV; rw [if_pos (by omega)]
    rw [hsz] at HZ
    clear hsz
    go_enter Try.func3, Try.ntmps3
    go_wp2_with fail
    refine (HZ.out _).mono ?_
    rintro e w1 ⟨rfl, hb1⟩
    obtain ⟨B1, hz1, hc1⟩ := nextW B0 hz0 hb1
    go_wp2
    go_ret
    exact ⟨rfl, B1⟩

end Go.Proofs.Ytkkeaimoplkliaa.OpH
