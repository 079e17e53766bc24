/-
  Contracts of the methods op and valid of an operation without its ID, of opOf and of operationOf, kind by kind. For every argument; no condition.
-/
import Derived.Test.YtdbnflgckcjlcaaK1
namespace Go.Proofs.Ytdbnflgckcjlcaa.OpD
open Go.RowKit Go.Proofs.Ytdbnflgckcjlcaa.Base Go.Proofs.Ytdbnflgckcjlcaa.St Go.Proofs.Ytdbnflgckcjlcaa.StB Go.Proofs.Ytdbnflgckcjlcaa.OpA Go.Proofs.Ytdbnflgckcjlcaa.OpW Go.Proofs.Ytdbnflgckcjlcaa.OpB
set_option linter.unusedVariables false

theorem nextF {n : Nat} {W w1 : World} (hz : n + 1 < W.heap.size) (hb : Below W.heap.size W w1) : (∀ o, w1.frozen? ⟨n, o, none⟩ = W.frozen? ⟨n, o, none⟩) ∧ (∀ o, w1.frozen? ⟨n + 1, o, none⟩ = W.frozen? ⟨n + 1, o, none⟩) :=
  ⟨fun o => hb.frozen (p := ⟨n, o, none⟩) (by show n < _; omega), fun o => hb.frozen (p := ⟨n + 1, o, none⟩) (by show n + 1 < _; omega)⟩
theorem vref_false (i j s a : Int) : vref i j s a false = (vst s a && slt s a i j) := by
  unfold vref
  by_cases h : zst s a = true
  · rw [if_pos h]
    have : s = 0 := by simp [zst] at h; exact h.1
    subst this
    simp [vst, inR]
  · rw [if_neg h]
theorem isRef (s a t b : Int) (w : World) :
    Calls Try.prog 128 #[.agg #[.int .i64 s, .int .i64 a], .agg #[.int .i64 t, .int .i64 b]] w fun e w' => e = .returned (.bool (vref t b s a false)) ∧ Below w.heap.size w w' := by
  rw [vref_false]
  exact impl_isRef s a t b w

theorem opOf1 (i j : Int) (ts : Int) (ta : Int) (fs : Int) (fa : Int) (v : Int) (w : World) :
    Calls Try.prog 101 #[.agg #[.int .i64 i, .int .i64 j], .iface 137 (.agg #[.int .i64 ts, .int .i64 ta, .int .i64 fs, .int .i64 fa, .int .i64 v])] w fun e w' => e = .returned (.agg #[.int .i64 i, .int .i64 j, .int .i64 1, .int .i64 ts, .int .i64 ta, .int .i64 fs, .int .i64 fa, .int .i64 0, .int .i64 0, .int .i64 v, .bool false, .string ByteArray.empty]) ∧ Below w.heap.size w w' := by
  go_enter Try.func101, Try.ntmps101
  go_wp2
  go_returns
  refine ⟨rfl, ?_⟩
  go_grown
theorem opOf2 (i j : Int) (ts : Int) (ta : Int) (w : World) :
    Calls Try.prog 101 #[.agg #[.int .i64 i, .int .i64 j], .iface 139 (.agg #[.int .i64 ts, .int .i64 ta])] w fun e w' => e = .returned (.agg #[.int .i64 i, .int .i64 j, .int .i64 2, .int .i64 ts, .int .i64 ta, .int .i64 0, .int .i64 0, .int .i64 0, .int .i64 0, .int .i64 0, .bool false, .string ByteArray.empty]) ∧ Below w.heap.size w w' := by
  go_enter Try.func101, Try.ntmps101
  go_wp2
  go_returns
  refine ⟨rfl, ?_⟩
  go_grown
theorem opOf3 (i j : Int) (ts : Int) (ta : Int) (fs : Int) (fa : Int) (v : Int) (en : Bool) (w : World) :
    Calls Try.prog 101 #[.agg #[.int .i64 i, .int .i64 j], .iface 141 (.agg #[.int .i64 ts, .int .i64 ta, .int .i64 fs, .int .i64 fa, .int .i64 v, .bool en])] w fun e w' => e = .returned (.agg #[.int .i64 i, .int .i64 j, .int .i64 3, .int .i64 ts, .int .i64 ta, .int .i64 fs, .int .i64 fa, .int .i64 0, .int .i64 0, .int .i64 v, .bool en, .string ByteArray.empty]) ∧ Below w.heap.size w w' := by
  go_enter Try.func101, Try.ntmps101
  go_wp2
  go_returns
  refine ⟨rfl, ?_⟩
  go_grown
theorem opOf4 (i j : Int) (ts : Int) (ta : Int) (fs : Int) (fa : Int) (v : Int) (w : World) :
    Calls Try.prog 101 #[.agg #[.int .i64 i, .int .i64 j], .iface 143 (.agg #[.int .i64 ts, .int .i64 ta, .int .i64 fs, .int .i64 fa, .int .i64 v])] w fun e w' => e = .returned (.agg #[.int .i64 i, .int .i64 j, .int .i64 4, .int .i64 ts, .int .i64 ta, .int .i64 fs, .int .i64 fa, .int .i64 0, .int .i64 0, .int .i64 v, .bool false, .string ByteArray.empty]) ∧ Below w.heap.size w w' := by
  go_enter Try.func101, Try.ntmps101
  go_wp2
  go_returns
  refine ⟨rfl, ?_⟩
  go_grown
theorem opOf5 (i j : Int) (ts : Int) (ta : Int) (fs : Int) (fa : Int) (ns : Int) (na : Int) (w : World) :
    Calls Try.prog 101 #[.agg #[.int .i64 i, .int .i64 j], .iface 145 (.agg #[.int .i64 ts, .int .i64 ta, .int .i64 fs, .int .i64 fa, .int .i64 ns, .int .i64 na])] w fun e w' => e = .returned (.agg #[.int .i64 i, .int .i64 j, .int .i64 5, .int .i64 ts, .int .i64 ta, .int .i64 fs, .int .i64 fa, .int .i64 ns, .int .i64 na, .int .i64 0, .bool false, .string ByteArray.empty]) ∧ Below w.heap.size w w' := by
  go_enter Try.func101, Try.ntmps101
  go_wp2
  go_returns
  refine ⟨rfl, ?_⟩
  go_grown
theorem opOf6 (i j : Int) (ts : Int) (ta : Int) (v : Int) (w : World) :
    Calls Try.prog 101 #[.agg #[.int .i64 i, .int .i64 j], .iface 147 (.agg #[.int .i64 ts, .int .i64 ta, .int .i64 v])] w fun e w' => e = .returned (.agg #[.int .i64 i, .int .i64 j, .int .i64 6, .int .i64 ts, .int .i64 ta, .int .i64 0, .int .i64 0, .int .i64 0, .int .i64 0, .int .i64 v, .bool false, .string ByteArray.empty]) ∧ Below w.heap.size w w' := by
  go_enter Try.func101, Try.ntmps101
  go_wp2
  go_returns
  refine ⟨rfl, ?_⟩
  go_grown
theorem opOf7 (i j : Int) (ts : Int) (ta : Int) (w : World) :
    Calls Try.prog 101 #[.agg #[.int .i64 i, .int .i64 j], .iface 149 (.agg #[.int .i64 ts, .int .i64 ta])] w fun e w' => e = .returned (.agg #[.int .i64 i, .int .i64 j, .int .i64 7, .int .i64 ts, .int .i64 ta, .int .i64 0, .int .i64 0, .int .i64 0, .int .i64 0, .int .i64 0, .bool false, .string ByteArray.empty]) ∧ Below w.heap.size w w' := by
  go_enter Try.func101, Try.ntmps101
  go_wp2
  go_returns
  refine ⟨rfl, ?_⟩
  go_grown
theorem opOf8 (i j : Int) (ts : Int) (ta : Int) (fs : Int) (fa : Int) (tx : ByteArray) (w : World) :
    Calls Try.prog 101 #[.agg #[.int .i64 i, .int .i64 j], .iface 151 (.agg #[.int .i64 ts, .int .i64 ta, .int .i64 fs, .int .i64 fa, .string tx])] w fun e w' => e = .returned (.agg #[.int .i64 i, .int .i64 j, .int .i64 8, .int .i64 ts, .int .i64 ta, .int .i64 fs, .int .i64 fa, .int .i64 0, .int .i64 0, .int .i64 0, .bool false, .string tx]) ∧ Below w.heap.size w w' := by
  go_enter Try.func101, Try.ntmps101
  go_wp2
  go_returns
  refine ⟨rfl, ?_⟩
  go_grown
theorem opOf9 (i j : Int) (ts : Int) (ta : Int) (tx : ByteArray) (w : World) :
    Calls Try.prog 101 #[.agg #[.int .i64 i, .int .i64 j], .iface 153 (.agg #[.int .i64 ts, .int .i64 ta, .string tx])] w fun e w' => e = .returned (.agg #[.int .i64 i, .int .i64 j, .int .i64 9, .int .i64 ts, .int .i64 ta, .int .i64 0, .int .i64 0, .int .i64 0, .int .i64 0, .int .i64 0, .bool false, .string tx]) ∧ Below w.heap.size w w' := by
  go_enter Try.func101, Try.ntmps101
  go_wp2
  go_returns
  refine ⟨rfl, ?_⟩
  go_grown
theorem opOf10 (i j : Int) (ts : Int) (ta : Int) (en : Bool) (w : World) :
    Calls Try.prog 101 #[.agg #[.int .i64 i, .int .i64 j], .iface 155 (.agg #[.int .i64 ts, .int .i64 ta, .bool en])] w fun e w' => e = .returned (.agg #[.int .i64 i, .int .i64 j, .int .i64 10, .int .i64 ts, .int .i64 ta, .int .i64 0, .int .i64 0, .int .i64 0, .int .i64 0, .int .i64 0, .bool en, .string ByteArray.empty]) ∧ Below w.heap.size w w' := by
  go_enter Try.func101, Try.ntmps101
  go_wp2
  go_returns
  refine ⟨rfl, ?_⟩
  go_grown

end Go.Proofs.Ytdbnflgckcjlcaa.OpD
