/-
  Contracts of the methods valid of an operation without its ID, kind by kind. For every argument whose text is a Go string; no condition.
-/
import Derived.Test.YtlogpbejfifgdaaOpD
namespace Go.Proofs.Ytlogpbejfifgdaa.OpE
open Go.RowKit Go.Proofs.Ytlogpbejfifgdaa.Base Go.Proofs.Ytlogpbejfifgdaa.St Go.Proofs.Ytlogpbejfifgdaa.StB Go.Proofs.Ytlogpbejfifgdaa.OpA Go.Proofs.Ytlogpbejfifgdaa.OpW Go.Proofs.Ytlogpbejfifgdaa.OpB Go.Proofs.Ytlogpbejfifgdaa.OpD
set_option linter.unusedVariables false

set_option maxHeartbeats 1000000 in
theorem valid1 (i j : Int) (ts : Int) (ta : Int) (fs : Int) (fa : Int) (v : Int) (w : World) :
    Calls Try.prog 137 #[.agg #[.int .i64 ts, .int .i64 ta, .int .i64 fs, .int .i64 fa, .int .i64 v], .agg #[.int .i64 i, .int .i64 j]] w fun e w' => e = .returned (.bool (vref i j ts ta true && (vref i j fs fa true && (inR v 32 126)))) ∧ Below w.heap.size w w' := by
  have B0 : Below w.heap.size w ((w.alloc (.cells #[.int .i64 ts, .int .i64 ta, .int .i64 fs, .int .i64 fa, .int .i64 v] 128)).alloc (.cells #[.int .i64 i, .int .i64 j] 25)) := ((Below.refl _ _).alloc (Nat.le_refl _) _).alloc (by simp) _
  have hz0 : w.heap.size + 1 < ((w.alloc (.cells #[.int .i64 ts, .int .i64 ta, .int .i64 fs, .int .i64 fa, .int .i64 v] 128)).alloc (.cells #[.int .i64 i, .int .i64 j] 25)).heap.size := by simp
  cases h1 : vref i j ts ta true
  · go_enter Try.func137, Try.ntmps137
    go_wp2_with (first | (go_at_call 139; refine (impl_isOptionalRef _ _ _ _ _).mono ?_; rintro e w1 ⟨rfl, hb1⟩; obtain ⟨B1, hz1, hc1, hd1⟩ := nextW2 (by assumption) (by assumption) hb1) | (go_at_call 97; refine (impl_inRange _ _ _ _).mono ?_; rintro e w' ⟨rfl, rfl⟩))
    go_ret
    exact ⟨ret_bool (by first | rfl | (simp; done)), by assumption⟩
  · cases h2 : vref i j fs fa true
    · go_enter Try.func137, Try.ntmps137
      go_wp2_with (first | (go_at_call 139; refine (impl_isOptionalRef _ _ _ _ _).mono ?_; rintro e w1 ⟨rfl, hb1⟩; obtain ⟨B1, hz1, hc1, hd1⟩ := nextW2 (by assumption) (by assumption) hb1) | (go_at_call 97; refine (impl_inRange _ _ _ _).mono ?_; rintro e w' ⟨rfl, rfl⟩))
      go_ret
      exact ⟨ret_bool (by first | rfl | (simp; done)), by assumption⟩
    · go_enter Try.func137, Try.ntmps137
      go_wp2_with (first | (go_at_call 139; refine (impl_isOptionalRef _ _ _ _ _).mono ?_; rintro e w1 ⟨rfl, hb1⟩; obtain ⟨B1, hz1, hc1, hd1⟩ := nextW2 (by assumption) (by assumption) hb1) | (go_at_call 97; refine (impl_inRange _ _ _ _).mono ?_; rintro e w' ⟨rfl, rfl⟩))
      go_ret
      exact ⟨ret_bool (by first | rfl | (simp; done)), by assumption⟩

set_option maxHeartbeats 1000000 in
theorem valid2 (i j : Int) (ts : Int) (ta : Int) (w : World) :
    Calls Try.prog 142 #[.agg #[.int .i64 ts, .int .i64 ta], .agg #[.int .i64 i, .int .i64 j]] w fun e w' => e = .returned (.bool (vref i j ts ta false)) ∧ Below w.heap.size w w' := by
  have B0 : Below w.heap.size w ((w.alloc (.cells #[.int .i64 ts, .int .i64 ta] 130)).alloc (.cells #[.int .i64 i, .int .i64 j] 25)) := ((Below.refl _ _).alloc (Nat.le_refl _) _).alloc (by simp) _
  have hz0 : w.heap.size + 1 < ((w.alloc (.cells #[.int .i64 ts, .int .i64 ta] 130)).alloc (.cells #[.int .i64 i, .int .i64 j] 25)).heap.size := by simp
  go_enter Try.func142, Try.ntmps142
  go_wp2_with (go_at_call 134; refine (isRef _ _ _ _ _).mono ?_; rintro e w1 ⟨rfl, hb1⟩; obtain ⟨B1, hz1, hc1, hd1⟩ := nextW2 (by assumption) (by assumption) hb1)
  go_ret
  exact ⟨ret_bool (by first | rfl | (simp; done)), by assumption⟩

set_option maxHeartbeats 1000000 in
theorem valid3 (i j : Int) (ts : Int) (ta : Int) (fs : Int) (fa : Int) (v : Int) (en : Bool) (w : World) :
    Calls Try.prog 146 #[.agg #[.int .i64 ts, .int .i64 ta, .int .i64 fs, .int .i64 fa, .int .i64 v, .bool en], .agg #[.int .i64 i, .int .i64 j]] w fun e w' => e = .returned (.bool (vref i j ts ta false && (vref i j fs fa false && (inR v 1 3)))) ∧ Below w.heap.size w w' := by
  have B0 : Below w.heap.size w ((w.alloc (.cells #[.int .i64 ts, .int .i64 ta, .int .i64 fs, .int .i64 fa, .int .i64 v, .bool en] 132)).alloc (.cells #[.int .i64 i, .int .i64 j] 25)) := ((Below.refl _ _).alloc (Nat.le_refl _) _).alloc (by simp) _
  have hz0 : w.heap.size + 1 < ((w.alloc (.cells #[.int .i64 ts, .int .i64 ta, .int .i64 fs, .int .i64 fa, .int .i64 v, .bool en] 132)).alloc (.cells #[.int .i64 i, .int .i64 j] 25)).heap.size := by simp
  cases h1 : vref i j ts ta false
  · go_enter Try.func146, Try.ntmps146
    go_wp2_with (first | (go_at_call 134; refine (isRef _ _ _ _ _).mono ?_; rintro e w1 ⟨rfl, hb1⟩; obtain ⟨B1, hz1, hc1, hd1⟩ := nextW2 (by assumption) (by assumption) hb1) | (go_at_call 97; refine (impl_inRange _ _ _ _).mono ?_; rintro e w' ⟨rfl, rfl⟩))
    go_ret
    exact ⟨ret_bool (by first | rfl | (simp; done)), by assumption⟩
  · cases h2 : vref i j fs fa false
    · go_enter Try.func146, Try.ntmps146
      go_wp2_with (first | (go_at_call 134; refine (isRef _ _ _ _ _).mono ?_; rintro e w1 ⟨rfl, hb1⟩; obtain ⟨B1, hz1, hc1, hd1⟩ := nextW2 (by assumption) (by assumption) hb1) | (go_at_call 97; refine (impl_inRange _ _ _ _).mono ?_; rintro e w' ⟨rfl, rfl⟩))
      go_ret
      exact ⟨ret_bool (by first | rfl | (simp; done)), by assumption⟩
    · go_enter Try.func146, Try.ntmps146
      go_wp2_with (first | (go_at_call 134; refine (isRef _ _ _ _ _).mono ?_; rintro e w1 ⟨rfl, hb1⟩; obtain ⟨B1, hz1, hc1, hd1⟩ := nextW2 (by assumption) (by assumption) hb1) | (go_at_call 97; refine (impl_inRange _ _ _ _).mono ?_; rintro e w' ⟨rfl, rfl⟩))
      go_ret
      exact ⟨ret_bool (by first | rfl | (simp; done)), by assumption⟩

set_option maxHeartbeats 1000000 in
theorem valid4 (i j : Int) (ts : Int) (ta : Int) (fs : Int) (fa : Int) (v : Int) (w : World) :
    Calls Try.prog 150 #[.agg #[.int .i64 ts, .int .i64 ta, .int .i64 fs, .int .i64 fa, .int .i64 v], .agg #[.int .i64 i, .int .i64 j]] w fun e w' => e = .returned (.bool (vref i j ts ta true && (vref i j fs fa true && (inR v 1 4)))) ∧ Below w.heap.size w w' := by
  have B0 : Below w.heap.size w ((w.alloc (.cells #[.int .i64 ts, .int .i64 ta, .int .i64 fs, .int .i64 fa, .int .i64 v] 134)).alloc (.cells #[.int .i64 i, .int .i64 j] 25)) := ((Below.refl _ _).alloc (Nat.le_refl _) _).alloc (by simp) _
  have hz0 : w.heap.size + 1 < ((w.alloc (.cells #[.int .i64 ts, .int .i64 ta, .int .i64 fs, .int .i64 fa, .int .i64 v] 134)).alloc (.cells #[.int .i64 i, .int .i64 j] 25)).heap.size := by simp
  cases h1 : vref i j ts ta true
  · go_enter Try.func150, Try.ntmps150
    go_wp2_with (first | (go_at_call 139; refine (impl_isOptionalRef _ _ _ _ _).mono ?_; rintro e w1 ⟨rfl, hb1⟩; obtain ⟨B1, hz1, hc1, hd1⟩ := nextW2 (by assumption) (by assumption) hb1) | (go_at_call 152; refine (impl_isBlockKind _ _).mono ?_; rintro e w' ⟨rfl, rfl⟩))
    go_ret
    exact ⟨ret_bool (by first | rfl | (simp; done)), by assumption⟩
  · cases h2 : vref i j fs fa true
    · go_enter Try.func150, Try.ntmps150
      go_wp2_with (first | (go_at_call 139; refine (impl_isOptionalRef _ _ _ _ _).mono ?_; rintro e w1 ⟨rfl, hb1⟩; obtain ⟨B1, hz1, hc1, hd1⟩ := nextW2 (by assumption) (by assumption) hb1) | (go_at_call 152; refine (impl_isBlockKind _ _).mono ?_; rintro e w' ⟨rfl, rfl⟩))
      go_ret
      exact ⟨ret_bool (by first | rfl | (simp; done)), by assumption⟩
    · go_enter Try.func150, Try.ntmps150
      go_wp2_with (first | (go_at_call 139; refine (impl_isOptionalRef _ _ _ _ _).mono ?_; rintro e w1 ⟨rfl, hb1⟩; obtain ⟨B1, hz1, hc1, hd1⟩ := nextW2 (by assumption) (by assumption) hb1) | (go_at_call 152; refine (impl_isBlockKind _ _).mono ?_; rintro e w' ⟨rfl, rfl⟩))
      go_ret
      exact ⟨ret_bool (by first | rfl | (simp; done)), by assumption⟩

set_option maxHeartbeats 1000000 in
theorem valid5 (i j : Int) (ts : Int) (ta : Int) (fs : Int) (fa : Int) (ns : Int) (na : Int) (w : World) :
    Calls Try.prog 155 #[.agg #[.int .i64 ts, .int .i64 ta, .int .i64 fs, .int .i64 fa, .int .i64 ns, .int .i64 na], .agg #[.int .i64 i, .int .i64 j]] w fun e w' => e = .returned (.bool (vref i j ts ta false && (vref i j fs fa true && (vref i j ns na true)))) ∧ Below w.heap.size w w' := by
  have B0 : Below w.heap.size w ((w.alloc (.cells #[.int .i64 ts, .int .i64 ta, .int .i64 fs, .int .i64 fa, .int .i64 ns, .int .i64 na] 136)).alloc (.cells #[.int .i64 i, .int .i64 j] 25)) := ((Below.refl _ _).alloc (Nat.le_refl _) _).alloc (by simp) _
  have hz0 : w.heap.size + 1 < ((w.alloc (.cells #[.int .i64 ts, .int .i64 ta, .int .i64 fs, .int .i64 fa, .int .i64 ns, .int .i64 na] 136)).alloc (.cells #[.int .i64 i, .int .i64 j] 25)).heap.size := by simp
  cases h1 : vref i j ts ta false
  · go_enter Try.func155, Try.ntmps155
    go_wp2_with (first | (go_at_call 134; refine (isRef _ _ _ _ _).mono ?_; rintro e w1 ⟨rfl, hb1⟩; obtain ⟨B1, hz1, hc1, hd1⟩ := nextW2 (by assumption) (by assumption) hb1) | (go_at_call 139; refine (impl_isOptionalRef _ _ _ _ _).mono ?_; rintro e w1 ⟨rfl, hb1⟩; obtain ⟨B1, hz1, hc1, hd1⟩ := nextW2 (by assumption) (by assumption) hb1))
    go_ret
    exact ⟨ret_bool (by first | rfl | (simp; done)), by assumption⟩
  · cases h2 : vref i j fs fa true
    · go_enter Try.func155, Try.ntmps155
      go_wp2_with (first | (go_at_call 134; refine (isRef _ _ _ _ _).mono ?_; rintro e w1 ⟨rfl, hb1⟩; obtain ⟨B1, hz1, hc1, hd1⟩ := nextW2 (by assumption) (by assumption) hb1) | (go_at_call 139; refine (impl_isOptionalRef _ _ _ _ _).mono ?_; rintro e w1 ⟨rfl, hb1⟩; obtain ⟨B1, hz1, hc1, hd1⟩ := nextW2 (by assumption) (by assumption) hb1))
      go_ret
      exact ⟨ret_bool (by first | rfl | (simp; done)), by assumption⟩
    · go_enter Try.func155, Try.ntmps155
      go_wp2_with (first | (go_at_call 134; refine (isRef _ _ _ _ _).mono ?_; rintro e w1 ⟨rfl, hb1⟩; obtain ⟨B1, hz1, hc1, hd1⟩ := nextW2 (by assumption) (by assumption) hb1) | (go_at_call 139; refine (impl_isOptionalRef _ _ _ _ _).mono ?_; rintro e w1 ⟨rfl, hb1⟩; obtain ⟨B1, hz1, hc1, hd1⟩ := nextW2 (by assumption) (by assumption) hb1))
      go_ret
      exact ⟨ret_bool (by first | rfl | (simp; done)), by assumption⟩

set_option maxHeartbeats 1000000 in
theorem valid6 (i j : Int) (ts : Int) (ta : Int) (v : Int) (w : World) :
    Calls Try.prog 159 #[.agg #[.int .i64 ts, .int .i64 ta, .int .i64 v], .agg #[.int .i64 i, .int .i64 j]] w fun e w' => e = .returned (.bool (vref i j ts ta false && (inR v 1 4))) ∧ Below w.heap.size w w' := by
  have B0 : Below w.heap.size w ((w.alloc (.cells #[.int .i64 ts, .int .i64 ta, .int .i64 v] 138)).alloc (.cells #[.int .i64 i, .int .i64 j] 25)) := ((Below.refl _ _).alloc (Nat.le_refl _) _).alloc (by simp) _
  have hz0 : w.heap.size + 1 < ((w.alloc (.cells #[.int .i64 ts, .int .i64 ta, .int .i64 v] 138)).alloc (.cells #[.int .i64 i, .int .i64 j] 25)).heap.size := by simp
  cases h1 : vref i j ts ta false
  · go_enter Try.func159, Try.ntmps159
    go_wp2_with (first | (go_at_call 134; refine (isRef _ _ _ _ _).mono ?_; rintro e w1 ⟨rfl, hb1⟩; obtain ⟨B1, hz1, hc1, hd1⟩ := nextW2 (by assumption) (by assumption) hb1) | (go_at_call 152; refine (impl_isBlockKind _ _).mono ?_; rintro e w' ⟨rfl, rfl⟩))
    go_ret
    exact ⟨ret_bool (by first | rfl | (simp; done)), by assumption⟩
  · go_enter Try.func159, Try.ntmps159
    go_wp2_with (first | (go_at_call 134; refine (isRef _ _ _ _ _).mono ?_; rintro e w1 ⟨rfl, hb1⟩; obtain ⟨B1, hz1, hc1, hd1⟩ := nextW2 (by assumption) (by assumption) hb1) | (go_at_call 152; refine (impl_isBlockKind _ _).mono ?_; rintro e w' ⟨rfl, rfl⟩))
    go_ret
    exact ⟨ret_bool (by first | rfl | (simp; done)), by assumption⟩

set_option maxHeartbeats 1000000 in
theorem valid7 (i j : Int) (ts : Int) (ta : Int) (w : World) :
    Calls Try.prog 163 #[.agg #[.int .i64 ts, .int .i64 ta], .agg #[.int .i64 i, .int .i64 j]] w fun e w' => e = .returned (.bool (vref i j ts ta false)) ∧ Below w.heap.size w w' := by
  have B0 : Below w.heap.size w ((w.alloc (.cells #[.int .i64 ts, .int .i64 ta] 140)).alloc (.cells #[.int .i64 i, .int .i64 j] 25)) := ((Below.refl _ _).alloc (Nat.le_refl _) _).alloc (by simp) _
  have hz0 : w.heap.size + 1 < ((w.alloc (.cells #[.int .i64 ts, .int .i64 ta] 140)).alloc (.cells #[.int .i64 i, .int .i64 j] 25)).heap.size := by simp
  go_enter Try.func163, Try.ntmps163
  go_wp2_with (go_at_call 134; refine (isRef _ _ _ _ _).mono ?_; rintro e w1 ⟨rfl, hb1⟩; obtain ⟨B1, hz1, hc1, hd1⟩ := nextW2 (by assumption) (by assumption) hb1)
  go_ret
  exact ⟨ret_bool (by first | rfl | (simp; done)), by assumption⟩

set_option maxHeartbeats 1000000 in
theorem valid8 (i j : Int) (ts : Int) (ta : Int) (fs : Int) (fa : Int) (tx : ByteArray) (w : World) (hs : tx.size ≤ maxLen) :
    Calls Try.prog 167 #[.agg #[.int .i64 ts, .int .i64 ta, .int .i64 fs, .int .i64 fa, .string tx], .agg #[.int .i64 i, .int .i64 j]] w fun e w' => e = .returned (.bool (vref i j ts ta false && (vref i j fs fa false && (wordB tx.data.toList)))) ∧ Below w.heap.size w w' := by
  have B0 : Below w.heap.size w ((w.alloc (.cells #[.int .i64 ts, .int .i64 ta, .int .i64 fs, .int .i64 fa, .string tx] 142)).alloc (.cells #[.int .i64 i, .int .i64 j] 25)) := ((Below.refl _ _).alloc (Nat.le_refl _) _).alloc (by simp) _
  have hz0 : w.heap.size + 1 < ((w.alloc (.cells #[.int .i64 ts, .int .i64 ta, .int .i64 fs, .int .i64 fa, .string tx] 142)).alloc (.cells #[.int .i64 i, .int .i64 j] 25)).heap.size := by simp
  cases h1 : vref i j ts ta false
  · go_enter Try.func167, Try.ntmps167
    go_wp2_with (first | (go_at_call 134; refine (isRef _ _ _ _ _).mono ?_; rintro e w1 ⟨rfl, hb1⟩; obtain ⟨B1, hz1, hc1, hd1⟩ := nextW2 (by assumption) (by assumption) hb1) | (go_at_call 169; refine (impl_isWord _ _ hs).mono ?_; rintro e w' ⟨rfl, rfl⟩))
    go_ret
    exact ⟨ret_bool (by first | rfl | (simp; done)), by assumption⟩
  · cases h2 : vref i j fs fa false
    · go_enter Try.func167, Try.ntmps167
      go_wp2_with (first | (go_at_call 134; refine (isRef _ _ _ _ _).mono ?_; rintro e w1 ⟨rfl, hb1⟩; obtain ⟨B1, hz1, hc1, hd1⟩ := nextW2 (by assumption) (by assumption) hb1) | (go_at_call 169; refine (impl_isWord _ _ hs).mono ?_; rintro e w' ⟨rfl, rfl⟩))
      go_ret
      exact ⟨ret_bool (by first | rfl | (simp; done)), by assumption⟩
    · go_enter Try.func167, Try.ntmps167
      go_wp2_with (first | (go_at_call 134; refine (isRef _ _ _ _ _).mono ?_; rintro e w1 ⟨rfl, hb1⟩; obtain ⟨B1, hz1, hc1, hd1⟩ := nextW2 (by assumption) (by assumption) hb1) | (go_at_call 169; refine (impl_isWord _ _ hs).mono ?_; rintro e w' ⟨rfl, rfl⟩))
      go_ret
      exact ⟨ret_bool (by first | rfl | (simp; done)), by assumption⟩

set_option maxHeartbeats 1000000 in
theorem valid9 (i j : Int) (ts : Int) (ta : Int) (tx : ByteArray) (w : World) (hs : tx.size ≤ maxLen) :
    Calls Try.prog 172 #[.agg #[.int .i64 ts, .int .i64 ta, .string tx], .agg #[.int .i64 i, .int .i64 j]] w fun e w' => e = .returned (.bool (vref i j ts ta false && (wordB tx.data.toList))) ∧ Below w.heap.size w w' := by
  have B0 : Below w.heap.size w ((w.alloc (.cells #[.int .i64 ts, .int .i64 ta, .string tx] 144)).alloc (.cells #[.int .i64 i, .int .i64 j] 25)) := ((Below.refl _ _).alloc (Nat.le_refl _) _).alloc (by simp) _
  have hz0 : w.heap.size + 1 < ((w.alloc (.cells #[.int .i64 ts, .int .i64 ta, .string tx] 144)).alloc (.cells #[.int .i64 i, .int .i64 j] 25)).heap.size := by simp
  cases h1 : vref i j ts ta false
  · go_enter Try.func172, Try.ntmps172
    go_wp2_with (first | (go_at_call 134; refine (isRef _ _ _ _ _).mono ?_; rintro e w1 ⟨rfl, hb1⟩; obtain ⟨B1, hz1, hc1, hd1⟩ := nextW2 (by assumption) (by assumption) hb1) | (go_at_call 169; refine (impl_isWord _ _ hs).mono ?_; rintro e w' ⟨rfl, rfl⟩))
    go_ret
    exact ⟨ret_bool (by first | rfl | (simp; done)), by assumption⟩
  · go_enter Try.func172, Try.ntmps172
    go_wp2_with (first | (go_at_call 134; refine (isRef _ _ _ _ _).mono ?_; rintro e w1 ⟨rfl, hb1⟩; obtain ⟨B1, hz1, hc1, hd1⟩ := nextW2 (by assumption) (by assumption) hb1) | (go_at_call 169; refine (impl_isWord _ _ hs).mono ?_; rintro e w' ⟨rfl, rfl⟩))
    go_ret
    exact ⟨ret_bool (by first | rfl | (simp; done)), by assumption⟩

set_option maxHeartbeats 1000000 in
theorem valid10 (i j : Int) (ts : Int) (ta : Int) (en : Bool) (w : World) :
    Calls Try.prog 133 #[.agg #[.int .i64 ts, .int .i64 ta, .bool en], .agg #[.int .i64 i, .int .i64 j]] w fun e w' => e = .returned (.bool (vref i j ts ta false)) ∧ Below w.heap.size w w' := by
  have B0 : Below w.heap.size w ((w.alloc (.cells #[.int .i64 ts, .int .i64 ta, .bool en] 100)).alloc (.cells #[.int .i64 i, .int .i64 j] 25)) := ((Below.refl _ _).alloc (Nat.le_refl _) _).alloc (by simp) _
  have hz0 : w.heap.size + 1 < ((w.alloc (.cells #[.int .i64 ts, .int .i64 ta, .bool en] 100)).alloc (.cells #[.int .i64 i, .int .i64 j] 25)).heap.size := by simp
  go_enter Try.func133, Try.ntmps133
  go_wp2_with (go_at_call 134; refine (isRef _ _ _ _ _).mono ?_; rintro e w1 ⟨rfl, hb1⟩; obtain ⟨B1, hz1, hc1, hd1⟩ := nextW2 (by assumption) (by assumption) hb1)
  go_ret
  exact ⟨ret_bool (by first | rfl | (simp; done)), by assumption⟩

end Go.Proofs.Ytlogpbejfifgdaa.OpE
