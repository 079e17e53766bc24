/-
  Contracts of operationOf, kind by kind. For every operation; no condition.
-/
import Derived.Test.YtdbnflgckcjlcaaK1
namespace Go.Proofs.Ytdbnflgckcjlcaa.OpF
open Go.RowKit Go.Proofs.Ytdbnflgckcjlcaa.Base Go.Proofs.Ytdbnflgckcjlcaa.St Go.Proofs.Ytdbnflgckcjlcaa.StB Go.Proofs.Ytdbnflgckcjlcaa.OpA Go.Proofs.Ytdbnflgckcjlcaa.OpW Go.Proofs.Ytdbnflgckcjlcaa.OpB

theorem operationOf1 (o : OpV) (w : World) (hk : o.k = 1) :
    Calls Try.prog 99 #[.agg #[.int .i64 o.i, .int .i64 o.j, .int .i64 o.k, .int .i64 o.ts, .int .i64 o.ta, .int .i64 o.fs, .int .i64 o.fa, .int .i64 o.ns, .int .i64 o.na, .int .i64 o.v, .bool o.en, .string o.tx]] w fun e w' => e = .returned (.tuple #[.iface 137 (.agg #[.int .i64 o.ts, .int .i64 o.ta, .int .i64 o.fs, .int .i64 o.fa, .int .i64 o.v]), .bool true]) ∧ Below w.heap.size w w' := by
  rw [hk]
  clear hk
  go_enter Try.func99, Try.ntmps99
  go_wp2
  go_ret2
  refine ⟨rfl, ?_⟩
  go_grown

theorem operationOf2 (o : OpV) (w : World) (hk : o.k = 2) :
    Calls Try.prog 99 #[.agg #[.int .i64 o.i, .int .i64 o.j, .int .i64 o.k, .int .i64 o.ts, .int .i64 o.ta, .int .i64 o.fs, .int .i64 o.fa, .int .i64 o.ns, .int .i64 o.na, .int .i64 o.v, .bool o.en, .string o.tx]] w fun e w' => e = .returned (.tuple #[.iface 139 (.agg #[.int .i64 o.ts, .int .i64 o.ta]), .bool true]) ∧ Below w.heap.size w w' := by
  rw [hk]
  clear hk
  go_enter Try.func99, Try.ntmps99
  go_wp2
  go_ret2
  refine ⟨rfl, ?_⟩
  go_grown

theorem operationOf3 (o : OpV) (w : World) (hk : o.k = 3) :
    Calls Try.prog 99 #[.agg #[.int .i64 o.i, .int .i64 o.j, .int .i64 o.k, .int .i64 o.ts, .int .i64 o.ta, .int .i64 o.fs, .int .i64 o.fa, .int .i64 o.ns, .int .i64 o.na, .int .i64 o.v, .bool o.en, .string o.tx]] w fun e w' => e = .returned (.tuple #[.iface 141 (.agg #[.int .i64 o.ts, .int .i64 o.ta, .int .i64 o.fs, .int .i64 o.fa, .int .i64 o.v, .bool o.en]), .bool true]) ∧ Below w.heap.size w w' := by
  rw [hk]
  clear hk
  go_enter Try.func99, Try.ntmps99
  go_wp2
  go_ret2
  refine ⟨rfl, ?_⟩
  go_grown

theorem operationOf4 (o : OpV) (w : World) (hk : o.k = 4) :
    Calls Try.prog 99 #[.agg #[.int .i64 o.i, .int .i64 o.j, .int .i64 o.k, .int .i64 o.ts, .int .i64 o.ta, .int .i64 o.fs, .int .i64 o.fa, .int .i64 o.ns, .int .i64 o.na, .int .i64 o.v, .bool o.en, .string o.tx]] w fun e w' => e = .returned (.tuple #[.iface 143 (.agg #[.int .i64 o.ts, .int .i64 o.ta, .int .i64 o.fs, .int .i64 o.fa, .int .i64 o.v]), .bool true]) ∧ Below w.heap.size w w' := by
  rw [hk]
  clear hk
  go_enter Try.func99, Try.ntmps99
  go_wp2
  go_ret2
  refine ⟨rfl, ?_⟩
  go_grown

theorem operationOf5 (o : OpV) (w : World) (hk : o.k = 5) :
    Calls Try.prog 99 #[.agg #[.int .i64 o.i, .int .i64 o.j, .int .i64 o.k, .int .i64 o.ts, .int .i64 o.ta, .int .i64 o.fs, .int .i64 o.fa, .int .i64 o.ns, .int .i64 o.na, .int .i64 o.v, .bool o.en, .string o.tx]] w fun e w' => e = .returned (.tuple #[.iface 145 (.agg #[.int .i64 o.ts, .int .i64 o.ta, .int .i64 o.fs, .int .i64 o.fa, .int .i64 o.ns, .int .i64 o.na]), .bool true]) ∧ Below w.heap.size w w' := by
  rw [hk]
  clear hk
  go_enter Try.func99, Try.ntmps99
  go_wp2
  go_ret2
  refine ⟨rfl, ?_⟩
  go_grown

theorem operationOf6 (o : OpV) (w : World) (hk : o.k = 6) :
    Calls Try.prog 99 #[.agg #[.int .i64 o.i, .int .i64 o.j, .int .i64 o.k, .int .i64 o.ts, .int .i64 o.ta, .int .i64 o.fs, .int .i64 o.fa, .int .i64 o.ns, .int .i64 o.na, .int .i64 o.v, .bool o.en, .string o.tx]] w fun e w' => e = .returned (.tuple #[.iface 147 (.agg #[.int .i64 o.ts, .int .i64 o.ta, .int .i64 o.v]), .bool true]) ∧ Below w.heap.size w w' := by
  rw [hk]
  clear hk
  go_enter Try.func99, Try.ntmps99
  go_wp2
  go_ret2
  refine ⟨rfl, ?_⟩
  go_grown

theorem operationOf7 (o : OpV) (w : World) (hk : o.k = 7) :
    Calls Try.prog 99 #[.agg #[.int .i64 o.i, .int .i64 o.j, .int .i64 o.k, .int .i64 o.ts, .int .i64 o.ta, .int .i64 o.fs, .int .i64 o.fa, .int .i64 o.ns, .int .i64 o.na, .int .i64 o.v, .bool o.en, .string o.tx]] w fun e w' => e = .returned (.tuple #[.iface 149 (.agg #[.int .i64 o.ts, .int .i64 o.ta]), .bool true]) ∧ Below w.heap.size w w' := by
  rw [hk]
  clear hk
  go_enter Try.func99, Try.ntmps99
  go_wp2
  go_ret2
  refine ⟨rfl, ?_⟩
  go_grown

theorem operationOf8 (o : OpV) (w : World) (hk : o.k = 8) :
    Calls Try.prog 99 #[.agg #[.int .i64 o.i, .int .i64 o.j, .int .i64 o.k, .int .i64 o.ts, .int .i64 o.ta, .int .i64 o.fs, .int .i64 o.fa, .int .i64 o.ns, .int .i64 o.na, .int .i64 o.v, .bool o.en, .string o.tx]] w fun e w' => e = .returned (.tuple #[.iface 151 (.agg #[.int .i64 o.ts, .int .i64 o.ta, .int .i64 o.fs, .int .i64 o.fa, .string o.tx]), .bool true]) ∧ Below w.heap.size w w' := by
  rw [hk]
  clear hk
  go_enter Try.func99, Try.ntmps99
  go_wp2
  go_ret2
  refine ⟨rfl, ?_⟩
  go_grown

theorem operationOf9 (o : OpV) (w : World) (hk : o.k = 9) :
    Calls Try.prog 99 #[.agg #[.int .i64 o.i, .int .i64 o.j, .int .i64 o.k, .int .i64 o.ts, .int .i64 o.ta, .int .i64 o.fs, .int .i64 o.fa, .int .i64 o.ns, .int .i64 o.na, .int .i64 o.v, .bool o.en, .string o.tx]] w fun e w' => e = .returned (.tuple #[.iface 153 (.agg #[.int .i64 o.ts, .int .i64 o.ta, .string o.tx]), .bool true]) ∧ Below w.heap.size w w' := by
  rw [hk]
  clear hk
  go_enter Try.func99, Try.ntmps99
  go_wp2
  go_ret2
  refine ⟨rfl, ?_⟩
  go_grown

theorem operationOf10 (o : OpV) (w : World) (hk : o.k = 10) :
    Calls Try.prog 99 #[.agg #[.int .i64 o.i, .int .i64 o.j, .int .i64 o.k, .int .i64 o.ts, .int .i64 o.ta, .int .i64 o.fs, .int .i64 o.fa, .int .i64 o.ns, .int .i64 o.na, .int .i64 o.v, .bool o.en, .string o.tx]] w fun e w' => e = .returned (.tuple #[.iface 155 (.agg #[.int .i64 o.ts, .int .i64 o.ta, .bool o.en]), .bool true]) ∧ Below w.heap.size w w' := by
  rw [hk]
  clear hk
  go_enter Try.func99, Try.ntmps99
  go_wp2
  go_ret2
  refine ⟨rfl, ?_⟩
  go_grown

theorem operationOf0 (o : OpV) (w : World) (hk : o.k < 1 ∨ 10 < o.k) :
    Calls Try.prog 99 #[.agg #[.int .i64 o.i, .int .i64 o.j, .int .i64 o.k, .int .i64 o.ts, .int .i64 o.ta, .int .i64 o.fs, .int .i64 o.fa, .int .i64 o.ns, .int .i64 o.na, .int .i64 o.v, .bool o.en, .string o.tx]] w fun e w' => e = .returned (.tuple #[.nilIface, .bool false]) ∧ Below w.heap.size w w' := by
  have k1 : (o.k == 1) = false := by simp; omega
  have k2 : (o.k == 2) = false := by simp; omega
  have k3 : (o.k == 3) = false := by simp; omega
  have k4 : (o.k == 4) = false := by simp; omega
  have k5 : (o.k == 5) = false := by simp; omega
  have k6 : (o.k == 6) = false := by simp; omega
  have k7 : (o.k == 7) = false := by simp; omega
  have k8 : (o.k == 8) = false := by simp; omega
  have k9 : (o.k == 9) = false := by simp; omega
  have k10 : (o.k == 10) = false := by simp; omega
  clear hk
  go_enter Try.func99, Try.ntmps99
  go_wp2
  go_ret2
  refine ⟨rfl, ?_⟩
  go_grown

end Go.Proofs.Ytdbnflgckcjlcaa.OpF
