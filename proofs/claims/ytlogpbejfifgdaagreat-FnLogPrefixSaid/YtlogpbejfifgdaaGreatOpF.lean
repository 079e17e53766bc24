/-
  Contracts of operationOf, kind by kind. For every operation; no condition.
-/
import Derived.Test.YtlogpbejfifgdaaGreatK1
namespace Go.Proofs.YtlogpbejfifgdaaGreat.OpF
open Go.RowKit Go.Proofs.YtlogpbejfifgdaaGreat.Base Go.Proofs.YtlogpbejfifgdaaGreat.St Go.Proofs.YtlogpbejfifgdaaGreat.StB Go.Proofs.YtlogpbejfifgdaaGreat.OpA Go.Proofs.YtlogpbejfifgdaaGreat.OpW Go.Proofs.YtlogpbejfifgdaaGreat.OpB

theorem operationOf1 (o : OpV) (w : World) (hk : o.k = 1) :
    Calls Tryz.prog 49 #[.agg #[.int .i64 o.i, .int .i64 o.j, .int .i64 o.k, .int .i64 o.ts, .int .i64 o.ta, .int .i64 o.fs, .int .i64 o.fa, .int .i64 o.ns, .int .i64 o.na, .int .i64 o.v, .bool o.en, .string o.tx]] w fun e w' => e = .returned (.tuple #[.iface 85 (.agg #[.int .i64 o.ts, .int .i64 o.ta, .int .i64 o.fs, .int .i64 o.fa, .int .i64 o.v]), .bool true]) ∧ Below w.heap.size w w' := by
  rw [hk]
  clear hk
  go_enter Tryz.func49, Tryz.ntmps49
  go_wp2
  go_ret2
  refine ⟨rfl, ?_⟩
  go_grown

theorem operationOf2 (o : OpV) (w : World) (hk : o.k = 2) :
    Calls Tryz.prog 49 #[.agg #[.int .i64 o.i, .int .i64 o.j, .int .i64 o.k, .int .i64 o.ts, .int .i64 o.ta, .int .i64 o.fs, .int .i64 o.fa, .int .i64 o.ns, .int .i64 o.na, .int .i64 o.v, .bool o.en, .string o.tx]] w fun e w' => e = .returned (.tuple #[.iface 87 (.agg #[.int .i64 o.ts, .int .i64 o.ta]), .bool true]) ∧ Below w.heap.size w w' := by
  rw [hk]
  clear hk
  go_enter Tryz.func49, Tryz.ntmps49
  go_wp2
  go_ret2
  refine ⟨rfl, ?_⟩
  go_grown

theorem operationOf3 (o : OpV) (w : World) (hk : o.k = 3) :
    Calls Tryz.prog 49 #[.agg #[.int .i64 o.i, .int .i64 o.j, .int .i64 o.k, .int .i64 o.ts, .int .i64 o.ta, .int .i64 o.fs, .int .i64 o.fa, .int .i64 o.ns, .int .i64 o.na, .int .i64 o.v, .bool o.en, .string o.tx]] w fun e w' => e = .returned (.tuple #[.iface 89 (.agg #[.int .i64 o.ts, .int .i64 o.ta, .int .i64 o.fs, .int .i64 o.fa, .int .i64 o.v, .bool o.en]), .bool true]) ∧ Below w.heap.size w w' := by
  rw [hk]
  clear hk
  go_enter Tryz.func49, Tryz.ntmps49
  go_wp2
  go_ret2
  refine ⟨rfl, ?_⟩
  go_grown

theorem operationOf4 (o : OpV) (w : World) (hk : o.k = 4) :
    Calls Tryz.prog 49 #[.agg #[.int .i64 o.i, .int .i64 o.j, .int .i64 o.k, .int .i64 o.ts, .int .i64 o.ta, .int .i64 o.fs, .int .i64 o.fa, .int .i64 o.ns, .int .i64 o.na, .int .i64 o.v, .bool o.en, .string o.tx]] w fun e w' => e = .returned (.tuple #[.iface 91 (.agg #[.int .i64 o.ts, .int .i64 o.ta, .int .i64 o.fs, .int .i64 o.fa, .int .i64 o.v]), .bool true]) ∧ Below w.heap.size w w' := by
  rw [hk]
  clear hk
  go_enter Tryz.func49, Tryz.ntmps49
  go_wp2
  go_ret2
  refine ⟨rfl, ?_⟩
  go_grown

theorem operationOf5 (o : OpV) (w : World) (hk : o.k = 5) :
    Calls Tryz.prog 49 #[.agg #[.int .i64 o.i, .int .i64 o.j, .int .i64 o.k, .int .i64 o.ts, .int .i64 o.ta, .int .i64 o.fs, .int .i64 o.fa, .int .i64 o.ns, .int .i64 o.na, .int .i64 o.v, .bool o.en, .string o.tx]] w fun e w' => e = .returned (.tuple #[.iface 93 (.agg #[.int .i64 o.ts, .int .i64 o.ta, .int .i64 o.fs, .int .i64 o.fa, .int .i64 o.ns, .int .i64 o.na]), .bool true]) ∧ Below w.heap.size w w' := by
  rw [hk]
  clear hk
  go_enter Tryz.func49, Tryz.ntmps49
  go_wp2
  go_ret2
  refine ⟨rfl, ?_⟩
  go_grown

theorem operationOf6 (o : OpV) (w : World) (hk : o.k = 6) :
    Calls Tryz.prog 49 #[.agg #[.int .i64 o.i, .int .i64 o.j, .int .i64 o.k, .int .i64 o.ts, .int .i64 o.ta, .int .i64 o.fs, .int .i64 o.fa, .int .i64 o.ns, .int .i64 o.na, .int .i64 o.v, .bool o.en, .string o.tx]] w fun e w' => e = .returned (.tuple #[.iface 95 (.agg #[.int .i64 o.ts, .int .i64 o.ta, .int .i64 o.v]), .bool true]) ∧ Below w.heap.size w w' := by
  rw [hk]
  clear hk
  go_enter Tryz.func49, Tryz.ntmps49
  go_wp2
  go_ret2
  refine ⟨rfl, ?_⟩
  go_grown

theorem operationOf7 (o : OpV) (w : World) (hk : o.k = 7) :
    Calls Tryz.prog 49 #[.agg #[.int .i64 o.i, .int .i64 o.j, .int .i64 o.k, .int .i64 o.ts, .int .i64 o.ta, .int .i64 o.fs, .int .i64 o.fa, .int .i64 o.ns, .int .i64 o.na, .int .i64 o.v, .bool o.en, .string o.tx]] w fun e w' => e = .returned (.tuple #[.iface 97 (.agg #[.int .i64 o.ts, .int .i64 o.ta]), .bool true]) ∧ Below w.heap.size w w' := by
  rw [hk]
  clear hk
  go_enter Tryz.func49, Tryz.ntmps49
  go_wp2
  go_ret2
  refine ⟨rfl, ?_⟩
  go_grown

theorem operationOf8 (o : OpV) (w : World) (hk : o.k = 8) :
    Calls Tryz.prog 49 #[.agg #[.int .i64 o.i, .int .i64 o.j, .int .i64 o.k, .int .i64 o.ts, .int .i64 o.ta, .int .i64 o.fs, .int .i64 o.fa, .int .i64 o.ns, .int .i64 o.na, .int .i64 o.v, .bool o.en, .string o.tx]] w fun e w' => e = .returned (.tuple #[.iface 99 (.agg #[.int .i64 o.ts, .int .i64 o.ta, .int .i64 o.fs, .int .i64 o.fa, .string o.tx]), .bool true]) ∧ Below w.heap.size w w' := by
  rw [hk]
  clear hk
  go_enter Tryz.func49, Tryz.ntmps49
  go_wp2
  go_ret2
  refine ⟨rfl, ?_⟩
  go_grown

theorem operationOf9 (o : OpV) (w : World) (hk : o.k = 9) :
    Calls Tryz.prog 49 #[.agg #[.int .i64 o.i, .int .i64 o.j, .int .i64 o.k, .int .i64 o.ts, .int .i64 o.ta, .int .i64 o.fs, .int .i64 o.fa, .int .i64 o.ns, .int .i64 o.na, .int .i64 o.v, .bool o.en, .string o.tx]] w fun e w' => e = .returned (.tuple #[.iface 101 (.agg #[.int .i64 o.ts, .int .i64 o.ta, .string o.tx]), .bool true]) ∧ Below w.heap.size w w' := by
  rw [hk]
  clear hk
  go_enter Tryz.func49, Tryz.ntmps49
  go_wp2
  go_ret2
  refine ⟨rfl, ?_⟩
  go_grown

theorem operationOf10 (o : OpV) (w : World) (hk : o.k = 10) :
    Calls Tryz.prog 49 #[.agg #[.int .i64 o.i, .int .i64 o.j, .int .i64 o.k, .int .i64 o.ts, .int .i64 o.ta, .int .i64 o.fs, .int .i64 o.fa, .int .i64 o.ns, .int .i64 o.na, .int .i64 o.v, .bool o.en, .string o.tx]] w fun e w' => e = .returned (.tuple #[.iface 103 (.agg #[.int .i64 o.ts, .int .i64 o.ta, .bool o.en]), .bool true]) ∧ Below w.heap.size w w' := by
  rw [hk]
  clear hk
  go_enter Tryz.func49, Tryz.ntmps49
  go_wp2
  go_ret2
  refine ⟨rfl, ?_⟩
  go_grown

theorem operationOf0 (o : OpV) (w : World) (hk : o.k < 1 ∨ 10 < o.k) :
    Calls Tryz.prog 49 #[.agg #[.int .i64 o.i, .int .i64 o.j, .int .i64 o.k, .int .i64 o.ts, .int .i64 o.ta, .int .i64 o.fs, .int .i64 o.fa, .int .i64 o.ns, .int .i64 o.na, .int .i64 o.v, .bool o.en, .string o.tx]] w fun e w' => e = .returned (.tuple #[.nilIface, .bool false]) ∧ Below w.heap.size w w' := by
  have k1 : (o.k == 1) = false := by simp; omega
  have k2 : (o.k == 2) = false := by simp; omega
  have k3 : (o.k == 3) = false := by simp; omega
  have k4 : (o.k == 4) = false := by simp; omega
  have k5 : (o.k == 5) = false := by simp; omega
  have k6 : (o.k == 6) = false := by simp; omega
  have k7 : (o.k == 7) = false := by simp; omega
  have k8 : (o.k == 8) = false := by simp; omega
  have k9 : (o.k == 9) = false := by simp; omega
  have k10 : (o.k == 10) = false := by simp; omega
  clear hk
  go_enter Tryz.func49, Tryz.ntmps49
  go_wp2
  go_ret2
  refine ⟨rfl, ?_⟩
  go_grown

end Go.Proofs.YtlogpbejfifgdaaGreat.OpF
