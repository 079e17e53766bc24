/-
  Contracts of the methods valid of an operation without its ID, kind by kind. For every argument whose text is a Go string; no condition.
-/
import Derived.Test.YtmjpblgnlbjejaaOpD
namespace Go.Proofs.Ytmjpblgnlbjejaa.OpE
open Go.RowKit Go.Proofs.Ytmjpblgnlbjejaa.Base Go.Proofs.Ytmjpblgnlbjejaa.St Go.Proofs.Ytmjpblgnlbjejaa.StB Go.Proofs.Ytmjpblgnlbjejaa.OpA Go.Proofs.Ytmjpblgnlbjejaa.OpW Go.Proofs.Ytmjpblgnlbjejaa.OpB Go.Proofs.Ytmjpblgnlbjejaa.OpD
set_option linter.unusedVariables false

set_option maxHeartbeats 1000000 in
theorem valid1 (i j : Int) (ts : Int) (ta : Int) (fs : Int) (fa : Int) (v : Int) (w : World) :
    Calls Try.prog 88 #[.agg #[.int .i64 ts, .int .i64 ta, .int .i64 fs, .int .i64 fa, .int .i64 v], .agg #[.int .i64 i, .int .i64 j]] w fun e w' => e = .returned (.bool (vref i j ts ta true && (vref i j fs fa true && (inR v 32 126)))) ∧ Below w.heap.size w w' := by
  have B0 : Below w.heap.size w ((w.alloc (.cells #[.int .i64 ts, .int .i64 ta, .int .i64 fs, .int .i64 fa, .int .i64 v] 78)).alloc (.cells #[.int .i64 i, .int .i64 j] 25)) := ((Below.refl _ _).alloc (Nat.le_refl _) _).alloc (by simp) _
  have hz0 : w.heap.size + 1 < ((w.alloc (.cells #[.int .i64 ts, .int .i64 ta, .int .i64 fs, .int .i64 fa, .int .i64 v] 78)).alloc (.cells #[.int .i64 i, .int .i64 j] 25)).heap.size := by simp
  cases h1 : vref i j ts ta true
  · go_enter Try.func88, Try.ntmps88
    go_wp2_with (first | (go_at_call 90; refine (impl_isOptionalRef _ _ _ _ _).mono ?_; rintro e w1 ⟨rfl, hb1⟩; obtain ⟨B1, hz1, hc1, hd1⟩ := nextW2 (by assumption) (by assumption) hb1) | (go_at_call 41; refine (impl_inRange _ _ _ _).mono ?_; rintro e w' ⟨rfl, rfl⟩))
    go_ret
    exact ⟨ret_bool (by first | rfl | (simp; done)), by assumption⟩
  · cases h2 : vref i j fs fa true
    · go_enter Try.func88, Try.ntmps88
      go_wp2_with (first | (go_at_call 90; refine (impl_isOptionalRef _ _ _ _ _).mono ?_; rintro e w1 ⟨rfl, hb1⟩; obtain ⟨B1, hz1, hc1, hd1⟩ := nextW2 (by assumption) (by assumption) hb1) | (go_at_call 41; refine (impl_inRange _ _ _ _).mono ?_; rintro e w' ⟨rfl, rfl⟩))
      go_ret
      exact ⟨ret_bool (by first | rfl | (simp; done)), by assumption⟩
    · go_enter Try.func88, Try.ntmps88
      go_wp2_with (first | (go_at_call 90; refine (impl_isOptionalRef _ _ _ _ _).mono ?_; rintro e w1 ⟨rfl, hb1⟩; obtain ⟨B1, hz1, hc1, hd1⟩ := nextW2 (by assumption) (by assumption) hb1) | (go_at_call 41; refine (impl_inRange _ _ _ _).mono ?_; rintro e w' ⟨rfl, rfl⟩))
      go_ret
      exact ⟨ret_bool (by first | rfl | (simp; done)), by assumption⟩

set_option maxHeartbeats 1000000 in
theorem valid2 (i j : Int) (ts : Int) (ta : Int) (w : World) :
    Calls Try.prog 93 #[.agg #[.int .i64 ts, .int .i64 ta], .agg #[.int .i64 i, .int .i64 j]] w fun e w' => e = .returned (.bool (vref i j ts ta false)) ∧ Below w.heap.size w w' := by
  have B0 : Below w.heap.size w ((w.alloc (.cells #[.int .i64 ts, .int .i64 ta] 80)).alloc (.cells #[.int .i64 i, .int .i64 j] 25)) := ((Below.refl _ _).alloc (Nat.le_refl _) _).alloc (by simp) _
  have hz0 : w.heap.size + 1 < ((w.alloc (.cells #[.int .i64 ts, .int .i64 ta] 80)).alloc (.cells #[.int .i64 i, .int .i64 j] 25)).heap.size := by simp
  go_enter Try.func93, Try.ntmps93
  go_wp2_with (go_at_call 91; refine (isRef _ _ _ _ _).mono ?_; rintro e w1 ⟨rfl, hb1⟩; obtain ⟨B1, hz1, hc1, hd1⟩ := nextW2 (by assumption) (by assumption) hb1)
  go_ret
  exact ⟨ret_bool (by first | rfl | (simp; done)), by assumption⟩

set_option maxHeartbeats 1000000 in
theorem valid3 (i j : Int) (ts : Int) (ta : Int) (fs : Int) (fa : Int) (v : Int) (en : Bool) (w : World) :
    Calls Try.prog 96 #[.agg #[.int .i64 ts, .int .i64 ta, .int .i64 fs, .int .i64 fa, .int .i64 v, .bool en], .agg #[.int .i64 i, .int .i64 j]] w fun e w' => e = .returned (.bool (vref i j ts ta false && (vref i j fs fa false && (inR v 1 3)))) ∧ Below w.heap.size w w' := by
  have B0 : Below w.heap.size w ((w.alloc (.cells #[.int .i64 ts, .int .i64 ta, .int .i64 fs, .int .i64 fa, .int .i64 v, .bool en] 82)).alloc (.cells #[.int .i64 i, .int .i64 j] 25)) := ((Below.refl _ _).alloc (Nat.le_refl _) _).alloc (by simp) _
  have hz0 : w.heap.size + 1 < ((w.alloc (.cells #[.int .i64 ts, .int .i64 ta, .int .i64 fs, .int .i64 fa, .int .i64 v, .bool en] 82)).alloc (.cells #[.int .i64 i, .int .i64 j] 25)).heap.size := by simp
  cases h1 : vref i j ts ta false
  · go_enter Try.func96, Try.ntmps96
    go_wp2_with (first | (go_at_call 91; refine (isRef _ _ _ _ _).mono ?_; rintro e w1 ⟨rfl, hb1⟩; obtain ⟨B1, hz1, hc1, hd1⟩ := nextW2 (by assumption) (by assumption) hb1) | (go_at_call 41; refine (impl_inRange _ _ _ _).mono ?_; rintro e w' ⟨rfl, rfl⟩))
    go_ret
    exact ⟨ret_bool (by first | rfl | (simp; done)), by assumption⟩
  · cases h2 : vref i j fs fa false
    · go_enter Try.func96, Try.ntmps96
      go_wp2_with (first | (go_at_call 91; refine (isRef _ _ _ _ _).mono ?_; rintro e w1 ⟨rfl, hb1⟩; obtain ⟨B1, hz1, hc1, hd1⟩ := nextW2 (by assumption) (by assumption) hb1) | (go_at_call 41; refine (impl_inRange _ _ _ _).mono ?_; rintro e w' ⟨rfl, rfl⟩))
      go_ret
      exact ⟨ret_bool (by first | rfl | (simp; done)), by assumption⟩
    · go_enter Try.func96, Try.ntmps96
      go_wp2_with (first | (go_at_call 91; refine (isRef _ _ _ _ _).mono ?_; rintro e w1 ⟨rfl, hb1⟩; obtain ⟨B1, hz1, hc1, hd1⟩ := nextW2 (by assumption) (by assumption) hb1) | (go_at_call 41; refine (impl_inRange _ _ _ _).mono ?_; rintro e w' ⟨rfl, rfl⟩))
      go_ret
      exact ⟨ret_bool (by first | rfl | (simp; done)), by assumption⟩

set_option maxHeartbeats 1000000 in
theorem valid4 (i j : Int) (ts : Int) (ta : Int) (fs : Int) (fa : Int) (v : Int) (w : World) :
    Calls Try.prog 99 #[.agg #[.int .i64 ts, .int .i64 ta, .int .i64 fs, .int .i64 fa, .int .i64 v], .agg #[.int .i64 i, .int .i64 j]] w fun e w' => e = .returned (.bool (vref i j ts ta true && (vref i j fs fa true && (inR v 1 4)))) ∧ Below w.heap.size w w' := by
  have B0 : Below w.heap.size w ((w.alloc (.cells #[.int .i64 ts, .int .i64 ta, .int .i64 fs, .int .i64 fa, .int .i64 v] 84)).alloc (.cells #[.int .i64 i, .int .i64 j] 25)) := ((Below.refl _ _).alloc (Nat.le_refl _) _).alloc (by simp) _
  have hz0 : w.heap.size + 1 < ((w.alloc (.cells #[.int .i64 ts, .int .i64 ta, .int .i64 fs, .int .i64 fa, .int .i64 v] 84)).alloc (.cells #[.int .i64 i, .int .i64 j] 25)).heap.size := by simp
  cases h1 : vref i j ts ta true
  · go_enter Try.func99, Try.ntmps99
    go_wp2_with (first | (go_at_call 90; refine (impl_isOptionalRef _ _ _ _ _).mono ?_; rintro e w1 ⟨rfl, hb1⟩; obtain ⟨B1, hz1, hc1, hd1⟩ := nextW2 (by assumption) (by assumption) hb1) | (go_at_call 101; refine (impl_isBlockKind _ _).mono ?_; rintro e w' ⟨rfl, rfl⟩))
    go_ret
    exact ⟨ret_bool (by first | rfl | (simp; done)), by assumption⟩
  · cases h2 : vref i j fs fa true
    · go_enter Try.func99, Try.ntmps99
      go_wp2_with (first | (go_at_call 90; refine (impl_isOptionalRef _ _ _ _ _).mono ?_; rintro e w1 ⟨rfl, hb1⟩; obtain ⟨B1, hz1, hc1, hd1⟩ := nextW2 (by assumption) (by assumption) hb1) | (go_at_call 101; refine (impl_isBlockKind _ _).mono ?_; rintro e w' ⟨rfl, rfl⟩))
      go_ret
      exact ⟨ret_bool (by first | rfl | (simp; done)), by assumption⟩
    · go_enter Try.func99, Try.ntmps99
      go_wp2_with (first | (go_at_call 90; refine (impl_isOptionalRef _ _ _ _ _).mono ?_; rintro e w1 ⟨rfl, hb1⟩; obtain ⟨B1, hz1, hc1, hd1⟩ := nextW2 (by assumption) (by assumption) hb1) | (go_at_call 101; refine (impl_isBlockKind _ _).mono ?_; rintro e w' ⟨rfl, rfl⟩))
      go_ret
      exact ⟨ret_bool (by first | rfl | (simp; done)), by assumption⟩

set_option maxHeartbeats 1000000 in
theorem valid5 (i j : Int) (ts : Int) (ta : Int) (fs : Int) (fa : Int) (ns : Int) (na : Int) (w : World) :
    Calls Try.prog 103 #[.agg #[.int .i64 ts, .int .i64 ta, .int .i64 fs, .int .i64 fa, .int .i64 ns, .int .i64 na], .agg #[.int .i64 i, .int .i64 j]] w fun e w' => e = .returned (.bool (vref i j ts ta false && (vref i j fs fa true && (vref i j ns na true)))) ∧ Below w.heap.size w w' := by
  have B0 : Below w.heap.size w ((w.alloc (.cells #[.int .i64 ts, .int .i64 ta, .int .i64 fs, .int .i64 fa, .int .i64 ns, .int .i64 na] 86)).alloc (.cells #[.int .i64 i, .int .i64 j] 25)) := ((Below.refl _ _).alloc (Nat.le_refl _) _).alloc (by simp) _
  have hz0 : w.heap.size + 1 < ((w.alloc (.cells #[.int .i64 ts, .int .i64 ta, .int .i64 fs, .int .i64 fa, .int .i64 ns, .int .i64 na] 86)).alloc (.cells #[.int .i64 i, .int .i64 j] 25)).heap.size := by simp
  cases h1 : vref i j ts ta false
  · go_enter Try.func103, Try.ntmps103
    go_wp2_with (first | (go_at_call 91; refine (isRef _ _ _ _ _).mono ?_; rintro e w1 ⟨rfl, hb1⟩; obtain ⟨B1, hz1, hc1, hd1⟩ := nextW2 (by assumption) (by assumption) hb1) | (go_at_call 90; refine (impl_isOptionalRef _ _ _ _ _).mono ?_; rintro e w1 ⟨rfl, hb1⟩; obtain ⟨B1, hz1, hc1, hd1⟩ := nextW2 (by assumption) (by assumption) hb1))
    go_ret
    exact ⟨ret_bool (by first | rfl | (simp; done)), by assumption⟩
  · cases h2 : vref i j fs fa true
    · go_enter Try.func103, Try.ntmps103
      go_wp2_with (first | (go_at_call 91; refine (isRef _ _ _ _ _).mono ?_; rintro e w1 ⟨rfl, hb1⟩; obtain ⟨B1, hz1, hc1, hd1⟩ := nextW2 (by assumption) (by assumption) hb1) | (go_at_call 90; refine (impl_isOptionalRef _ _ _ _ _).mono ?_; rintro e w1 ⟨rfl, hb1⟩; obtain ⟨B1, hz1, hc1, hd1⟩ := nextW2 (by assumption) (by assumption) hb1))
      go_ret
      exact ⟨ret_bool (by first | rfl | (simp; done)), by assumption⟩
    · go_enter Try.func103, Try.ntmps103
      go_wp2_with (first | (go_at_call 91; refine (isRef _ _ _ _ _).mono ?_; rintro e w1 ⟨rfl, hb1⟩; obtain ⟨B1, hz1, hc1, hd1⟩ := nextW2 (by assumption) (by assumption) hb1) | (go_at_call 90; refine (impl_isOptionalRef _ _ _ _ _).mono ?_; rintro e w1 ⟨rfl, hb1⟩; obtain ⟨B1, hz1, hc1, hd1⟩ := nextW2 (by assumption) (by assumption) hb1))
      go_ret
      exact ⟨ret_bool (by first | rfl | (simp; done)), by assumption⟩

set_option maxHeartbeats 1000000 in
theorem valid6 (i j : Int) (ts : Int) (ta : Int) (v : Int) (w : World) :
    Calls Try.prog 106 #[.agg #[.int .i64 ts, .int .i64 ta, .int .i64 v], .agg #[.int .i64 i, .int .i64 j]] w fun e w' => e = .returned (.bool (vref i j ts ta false && (inR v 1 4))) ∧ Below w.heap.size w w' := by
  have B0 : Below w.heap.size w ((w.alloc (.cells #[.int .i64 ts, .int .i64 ta, .int .i64 v] 88)).alloc (.cells #[.int .i64 i, .int .i64 j] 25)) := ((Below.refl _ _).alloc (Nat.le_refl _) _).alloc (by simp) _
  have hz0 : w.heap.size + 1 < ((w.alloc (.cells #[.int .i64 ts, .int .i64 ta, .int .i64 v] 88)).alloc (.cells #[.int .i64 i, .int .i64 j] 25)).heap.size := by simp
  cases h1 : vref i j ts ta false
  · go_enter Try.func106, Try.ntmps106
    go_wp2_with (first | (go_at_call 91; refine (isRef _ _ _ _ _).mono ?_; rintro e w1 ⟨rfl, hb1⟩; obtain ⟨B1, hz1, hc1, hd1⟩ := nextW2 (by assumption) (by assumption) hb1) | (go_at_call 101; refine (impl_isBlockKind _ _).mono ?_; rintro e w' ⟨rfl, rfl⟩))
    go_ret
    exact ⟨ret_bool (by first | rfl | (simp; done)), by assumption⟩
  · go_enter Try.func106, Try.ntmps106
    go_wp2_with (first | (go_at_call 91; refine (isRef _ _ _ _ _).mono ?_; rintro e w1 ⟨rfl, hb1⟩; obtain ⟨B1, hz1, hc1, hd1⟩ := nextW2 (by assumption) (by assumption) hb1) | (go_at_call 101; refine (impl_isBlockKind _ _).mono ?_; rintro e w' ⟨rfl, rfl⟩))
    go_ret
    exact ⟨ret_bool (by first | rfl | (simp; done)), by assumption⟩

set_option maxHeartbeats 1000000 in
theorem valid7 (i j : Int) (ts : Int) (ta : Int) (w : World) :
    Calls Try.prog 109 #[.agg #[.int .i64 ts, .int .i64 ta], .agg #[.int .i64 i, .int .i64 j]] w fun e w' => e = .returned (.bool (vref i j ts ta false)) ∧ Below w.heap.size w w' := by
  have B0 : Below w.heap.size w ((w.alloc (.cells #[.int .i64 ts, .int .i64 ta] 90)).alloc (.cells #[.int .i64 i, .int .i64 j] 25)) := ((Below.refl _ _).alloc (Nat.le_refl _) _).alloc (by simp) _
  have hz0 : w.heap.size + 1 < ((w.alloc (.cells #[.int .i64 ts, .int .i64 ta] 90)).alloc (.cells #[.int .i64 i, .int .i64 j] 25)).heap.size := by simp
  go_enter Try.func109, Try.ntmps109
  go_wp2_with (go_at_call 91; refine (isRef _ _ _ _ _).mono ?_; rintro e w1 ⟨rfl, hb1⟩; obtain ⟨B1, hz1, hc1, hd1⟩ := nextW2 (by assumption) (by assumption) hb1)
  go_ret
  exact ⟨ret_bool (by first | rfl | (simp; done)), by assumption⟩

set_option maxHeartbeats 1000000 in
theorem valid8 (i j : Int) (ts : Int) (ta : Int) (fs : Int) (fa : Int) (tx : ByteArray) (w : World) (hs : tx.size ≤ maxLen) :
    Calls Try.prog 112 #[.agg #[.int .i64 ts, .int .i64 ta, .int .i64 fs, .int .i64 fa, .string tx], .agg #[.int .i64 i, .int .i64 j]] w fun e w' => e = .returned (.bool (vref i j ts ta false && (vref i j fs fa false && (wordB tx.data.toList)))) ∧ Below w.heap.size w w' := by
  have B0 : Below w.heap.size w ((w.alloc (.cells #[.int .i64 ts, .int .i64 ta, .int .i64 fs, .int .i64 fa, .string tx] 92)).alloc (.cells #[.int .i64 i, .int .i64 j] 25)) := ((Below.refl _ _).alloc (Nat.le_refl _) _).alloc (by simp) _
  have hz0 : w.heap.size + 1 < ((w.alloc (.cells #[.int .i64 ts, .int .i64 ta, .int .i64 fs, .int .i64 fa, .string tx] 92)).alloc (.cells #[.int .i64 i, .int .i64 j] 25)).heap.size := by simp
  cases h1 : vref i j ts ta false
  · go_enter Try.func112, Try.ntmps112
    go_wp2_with (first | (go_at_call 91; refine (isRef _ _ _ _ _).mono ?_; rintro e w1 ⟨rfl, hb1⟩; obtain ⟨B1, hz1, hc1, hd1⟩ := nextW2 (by assumption) (by assumption) hb1) | (go_at_call 114; refine (impl_isWord _ _ hs).mono ?_; rintro e w' ⟨rfl, rfl⟩))
    go_ret
    exact ⟨ret_bool (by first | rfl | (simp; done)), by assumption⟩
  · cases h2 : vref i j fs fa false
    · go_enter Try.func112, Try.ntmps112
      go_wp2_with (first | (go_at_call 91; refine (isRef _ _ _ _ _).mono ?_; rintro e w1 ⟨rfl, hb1⟩; obtain ⟨B1, hz1, hc1, hd1⟩ := nextW2 (by assumption) (by assumption) hb1) | (go_at_call 114; refine (impl_isWord _ _ hs).mono ?_; rintro e w' ⟨rfl, rfl⟩))
      go_ret
      exact ⟨ret_bool (by first | rfl | (simp; done)), by assumption⟩
    · go_enter Try.func112, Try.ntmps112
      go_wp2_with (first | (go_at_call 91; refine (isRef _ _ _ _ _).mono ?_; rintro e w1 ⟨rfl, hb1⟩; obtain ⟨B1, hz1, hc1, hd1⟩ := nextW2 (by assumption) (by assumption) hb1) | (go_at_call 114; refine (impl_isWord _ _ hs).mono ?_; rintro e w' ⟨rfl, rfl⟩))
      go_ret
      exact ⟨ret_bool (by first | rfl | (simp; done)), by assumption⟩

set_option maxHeartbeats 1000000 in
theorem valid9 (i j : Int) (ts : Int) (ta : Int) (tx : ByteArray) (w : World) (hs : tx.size ≤ maxLen) :
    Calls Try.prog 116 #[.agg #[.int .i64 ts, .int .i64 ta, .string tx], .agg #[.int .i64 i, .int .i64 j]] w fun e w' => e = .returned (.bool (vref i j ts ta false && (wordB tx.data.toList))) ∧ Below w.heap.size w w' := by
  have B0 : Below w.heap.size w ((w.alloc (.cells #[.int .i64 ts, .int .i64 ta, .string tx] 94)).alloc (.cells #[.int .i64 i, .int .i64 j] 25)) := ((Below.refl _ _).alloc (Nat.le_refl _) _).alloc (by simp) _
  have hz0 : w.heap.size + 1 < ((w.alloc (.cells #[.int .i64 ts, .int .i64 ta, .string tx] 94)).alloc (.cells #[.int .i64 i, .int .i64 j] 25)).heap.size := by simp
  cases h1 : vref i j ts ta false
  · go_enter Try.func116, Try.ntmps116
    go_wp2_with (first | (go_at_call 91; refine (isRef _ _ _ _ _).mono ?_; rintro e w1 ⟨rfl, hb1⟩; obtain ⟨B1, hz1, hc1, hd1⟩ := nextW2 (by assumption) (by assumption) hb1) | (go_at_call 114; refine (impl_isWord _ _ hs).mono ?_; rintro e w' ⟨rfl, rfl⟩))
    go_ret
    exact ⟨ret_bool (by first | rfl | (simp; done)), by assumption⟩
  · go_enter Try.func116, Try.ntmps116
    go_wp2_with (first | (go_at_call 91; refine (isRef _ _ _ _ _).mono ?_; rintro e w1 ⟨rfl, hb1⟩; obtain ⟨B1, hz1, hc1, hd1⟩ := nextW2 (by assumption) (by assumption) hb1) | (go_at_call 114; refine (impl_isWord _ _ hs).mono ?_; rintro e w' ⟨rfl, rfl⟩))
    go_ret
    exact ⟨ret_bool (by first | rfl | (simp; done)), by assumption⟩

set_option maxHeartbeats 1000000 in
theorem valid10 (i j : Int) (ts : Int) (ta : Int) (en : Bool) (w : World) :
    Calls Try.prog 119 #[.agg #[.int .i64 ts, .int .i64 ta, .bool en], .agg #[.int .i64 i, .int .i64 j]] w fun e w' => e = .returned (.bool (vref i j ts ta false)) ∧ Below w.heap.size w w' := by
  have B0 : Below w.heap.size w ((w.alloc (.cells #[.int .i64 ts, .int .i64 ta, .bool en] 96)).alloc (.cells #[.int .i64 i, .int .i64 j] 25)) := ((Below.refl _ _).alloc (Nat.le_refl _) _).alloc (by simp) _
  have hz0 : w.heap.size + 1 < ((w.alloc (.cells #[.int .i64 ts, .int .i64 ta, .bool en] 96)).alloc (.cells #[.int .i64 i, .int .i64 j] 25)).heap.size := by simp
  go_enter Try.func119, Try.ntmps119
  go_wp2_with (go_at_call 91; refine (isRef _ _ _ _ _).mono ?_; rintro e w1 ⟨rfl, hb1⟩; obtain ⟨B1, hz1, hc1, hd1⟩ := nextW2 (by assumption) (by assumption) hb1)
  go_ret
  exact ⟨ret_bool (by first | rfl | (simp; done)), by assumption⟩

end Go.Proofs.Ytmjpblgnlbjejaa.OpE
