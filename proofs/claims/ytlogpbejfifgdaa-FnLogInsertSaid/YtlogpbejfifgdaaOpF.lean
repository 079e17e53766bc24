/-
  Contracts of operationOf, kind by kind. For every operation; no condition.
-/
import Derived.Test.YtlogpbejfifgdaaK1
namespace Go.Proofs.Ytlogpbejfifgdaa.OpF
open Go.RowKit Go.Proofs.Ytlogpbejfifgdaa.Base Go.Proofs.Ytlogpbejfifgdaa.St Go.Proofs.Ytlogpbejfifgdaa.StB Go.Proofs.Ytlogpbejfifgdaa.OpA Go.Proofs.Ytlogpbejfifgdaa.OpW Go.Proofs.Ytlogpbejfifgdaa.OpB

theorem operationOf1 (o : OpV) (w : World) (hk : o.k = 1) :
    Calls Try.prog 98 #[.agg #[.int .i64 o.i, .int .i64 o.j, .int .i64 o.k, .int .i64 o.ts, .int .i64 o.ta, .int .i64 o.fs, .int .i64 o.fa, .int .i64 o.ns, .int .i64 o.na, .int .i64 o.v, .bool o.en, .string o.tx]] w fun e w' => e = .returned (.tuple #[.iface 128 (.agg #[.int .i64 o.ts, .int .i64 o.ta, .int .i64 o.fs, .int .i64 o.fa, .int .i64 o.v]), .bool true]) ∧ Below w.heap.size w w' := by
  rw [hk]
  clear hk
  go_enter Try.func98, Try.ntmps98
  go_wp2
  go_ret2
  refine ⟨rfl, ?_⟩
  go_grown

theorem operationOf2 (o : OpV) (w : World) (hk : o.k = 2) :
    Calls Try.prog 98 #[.agg #[.int .i64 o.i, .int .i64 o.j, .int .i64 o.k, .int .i64 o.ts, .int .i64 o.ta, .int .i64 o.fs, .int .i64 o.fa, .int .i64 o.ns, .int .i64 o.na, .int .i64 o.v, .bool o.en, .string o.tx]] w fun e w' => e = .returned (.tuple #[.iface 130 (.agg #[.int .i64 o.ts, .int .i64 o.ta]), .bool true]) ∧ Below w.heap.size w w' := by
  rw [hk]
  clear hk
  go_enter Try.func98, Try.ntmps98
  go_wp2
  go_ret2
  refine ⟨rfl, ?_⟩
  go_grown

theorem operationOf3 (o : OpV) (w : World) (hk : o.k = 3) :
    Calls Try.prog 98 #[.agg #[.int .i64 o.i, .int .i64 o.j, .int .i64 o.k, .int .i64 o.ts, .int .i64 o.ta, .int .i64 o.fs, .int .i64 o.fa, .int .i64 o.ns, .int .i64 o.na, .int .i64 o.v, .bool o.en, .string o.tx]] w fun e w' => e = .returned (.tuple #[.iface 132 (.agg #[.int .i64 o.ts, .int .i64 o.ta, .int .i64 o.fs, .int .i64 o.fa, .int .i64 o.v, .bool o.en]), .bool true]) ∧ Below w.heap.size w w' := by
  rw [hk]
  clear hk
  go_enter Try.func98, Try.ntmps98
  go_wp2
  go_ret2
  refine ⟨rfl, ?_⟩
  go_grown

theorem operationOf4 (o : OpV) (w : World) (hk : o.k = 4) :
    Calls Try.prog 98 #[.agg #[.int .i64 o.i, .int .i64 o.j, .int .i64 o.k, .int .i64 o.ts, .int .i64 o.ta, .int .i64 o.fs, .int .i64 o.fa, .int .i64 o.ns, .int .i64 o.na, .int .i64 o.v, .bool o.en, .string o.tx]] w fun e w' => e = .returned (.tuple #[.iface 134 (.agg #[.int .i64 o.ts, .int .i64 o.ta, .int .i64 o.fs, .int .i64 o.fa, .int .i64 o.v]), .bool true]) ∧ Below w.heap.size w w' := by
  rw [hk]
  clear hk
  go_enter Try.func98, Try.ntmps98
  go_wp2
  go_ret2
  refine ⟨rfl, ?_⟩
  go_grown

theorem operationOf5 (o : OpV) (w : World) (hk : o.k = 5) :
    Calls Try.prog 98 #[.agg #[.int .i64 o.i, .int .i64 o.j, .int .i64 o.k, .int .i64 o.ts, .int .i64 o.ta, .int .i64 o.fs, .int .i64 o.fa, .int .i64 o.ns, .int .i64 o.na, .int .i64 o.v, .bool o.en, .string o.tx]] w fun e w' => e = .returned (.tuple #[.iface 136 (.agg #[.int .i64 o.ts, .int .i64 o.ta, .int .i64 o.fs, .int .i64 o.fa, .int .i64 o.ns, .int .i64 o.na]), .bool true]) ∧ Below w.heap.size w w' := by
  rw [hk]
  clear hk
  go_enter Try.func98, Try.ntmps98
  go_wp2
  go_ret2
  refine ⟨rfl, ?_⟩
  go_grown

theorem operationOf6 (o : OpV) (w : World) (hk : o.k = 6) :
    Calls Try.prog 98 #[.agg #[.int .i64 o.i, .int .i64 o.j, .int .i64 o.k, .int .i64 o.ts, .int .i64 o.ta, .int .i64 o.fs, .int .i64 o.fa, .int .i64 o.ns, .int .i64 o.na, .int .i64 o.v, .bool o.en, .string o.tx]] w fun e w' => e = .returned (.tuple #[.iface 138 (.agg #[.int .i64 o.ts, .int .i64 o.ta, .int .i64 o.v]), .bool true]) ∧ Below w.heap.size w w' := by
  rw [hk]
  clear hk
  go_enter Try.func98, Try.ntmps98
  go_wp2
  go_ret2
  refine ⟨rfl, ?_⟩
  go_grown

theorem operationOf7 (o : OpV) (w : World) (hk : o.k = 7) :
    Calls Try.prog 98 #[.agg #[.int .i64 o.i, .int .i64 o.j, .int .i64 o.k, .int .i64 o.ts, .int .i64 o.ta, .int .i64 o.fs, .int .i64 o.fa, .int .i64 o.ns, .int .i64 o.na, .int .i64 o.v, .bool o.en, .string o.tx]] w fun e w' => e = .returned (.tuple #[.iface 140 (.agg #[.int .i64 o.ts, .int .i64 o.ta]), .bool true]) ∧ Below w.heap.size w w' := by
  rw [hk]
  clear hk
  go_enter Try.func98, Try.ntmps98
  go_wp2
  go_ret2
  refine ⟨rfl, ?_⟩
  go_grown

theorem operationOf8 (o : OpV) (w : World) (hk : o.k = 8) :
    Calls Try.prog 98 #[.agg #[.int .i64 o.i, .int .i64 o.j, .int .i64 o.k, .int .i64 o.ts, .int .i64 o.ta, .int .i64 o.fs, .int .i64 o.fa, .int .i64 o.ns, .int .i64 o.na, .int .i64 o.v, .bool o.en, .string o.tx]] w fun e w' => e = .returned (.tuple #[.iface 142 (.agg #[.int .i64 o.ts, .int .i64 o.ta, .int .i64 o.fs, .int .i64 o.fa, .string o.tx]), .bool true]) ∧ Below w.heap.size w w' := by
  rw [hk]
  clear hk
  go_enter Try.func98, Try.ntmps98
  go_wp2
  go_ret2
  refine ⟨rfl, ?_⟩
  go_grown

theorem operationOf9 (o : OpV) (w : World) (hk : o.k = 9) :
    Calls Try.prog 98 #[.agg #[.int .i64 o.i, .int .i64 o.j, .int .i64 o.k, .int .i64 o.ts, .int .i64 o.ta, .int .i64 o.fs, .int .i64 o.fa, .int .i64 o.ns, .int .i64 o.na, .int .i64 o.v, .bool o.en, .string o.tx]] w fun e w' => e = .returned (.tuple #[.iface 144 (.agg #[.int .i64 o.ts, .int .i64 o.ta, .string o.tx]), .bool true]) ∧ Below w.heap.size w w' := by
  rw [hk]
  clear hk
  go_enter Try.func98, Try.ntmps98
  go_wp2
  go_ret2
  refine ⟨rfl, ?_⟩
  go_grown

theorem operationOf10 (o : OpV) (w : World) (hk : o.k = 10) :
    Calls Try.prog 98 #[.agg #[.int .i64 o.i, .int .i64 o.j, .int .i64 o.k, .int .i64 o.ts, .int .i64 o.ta, .int .i64 o.fs, .int .i64 o.fa, .int .i64 o.ns, .int .i64 o.na, .int .i64 o.v, .bool o.en, .string o.tx]] w fun e w' => e = .returned (.tuple #[.iface 100 (.agg #[.int .i64 o.ts, .int .i64 o.ta, .bool o.en]), .bool true]) ∧ Below w.heap.size w w' := by
  rw [hk]
  clear hk
  go_enter Try.func98, Try.ntmps98
  go_wp2
  go_ret2
  refine ⟨rfl, ?_⟩
  go_grown

theorem operationOf0 (o : OpV) (w : World) (hk : o.k < 1 ∨ 10 < o.k) :
    Calls Try.prog 98 #[.agg #[.int .i64 o.i, .int .i64 o.j, .int .i64 o.k, .int .i64 o.ts, .int .i64 o.ta, .int .i64 o.fs, .int .i64 o.fa, .int .i64 o.ns, .int .i64 o.na, .int .i64 o.v, .bool o.en, .string o.tx]] w fun e w' => e = .returned (.tuple #[.nilIface, .bool false]) ∧ Below w.heap.size w w' := by
  have k1 : (o.k == 1) = false := by simp; omega
  have k2 : (o.k == 2) = false := by simp; omega
  have k3 : (o.k == 3) = false := by simp; omega
  have k4 : (o.k == 4) = false := by simp; omega
  have k5 : (o.k == 5) = false := by simp; omega
  have k6 : (o.k == 6) = false := by simp; omega
  have k7 : (o.k == 7) = false := by simp; omega
  have k8 : (o.k == 8) = false := by simp; omega
  have k9 : (o.k == 9) = false := by simp; omega
  have k10 : (o.k == 10) = false := by simp; omega
  clear hk
  go_enter Try.func98, Try.ntmps98
  go_wp2
  go_ret2
  refine ⟨rfl, ?_⟩
  go_grown

end Go.Proofs.Ytlogpbejfifgdaa.OpF
