/-
  Contracts of the methods valid of an operation without its ID, kind by kind. For every argument whose text is a Go string; no condition.
-/
import Derived.Test.YtlogpbejfifgdaaGreatOpD
namespace Go.Proofs.YtlogpbejfifgdaaGreat.OpE
open Go.RowKit Go.Proofs.YtlogpbejfifgdaaGreat.Base Go.Proofs.YtlogpbejfifgdaaGreat.St Go.Proofs.YtlogpbejfifgdaaGreat.StB Go.Proofs.YtlogpbejfifgdaaGreat.OpA Go.Proofs.YtlogpbejfifgdaaGreat.OpW Go.Proofs.YtlogpbejfifgdaaGreat.OpB Go.Proofs.YtlogpbejfifgdaaGreat.OpD
set_option linter.unusedVariables false

set_option maxHeartbeats 1000000 in
theorem valid1 (i j : Int) (ts : Int) (ta : Int) (fs : Int) (fa : Int) (v : Int) (w : World) :
    Calls Tryz.prog 88 #[.agg #[.int .i64 ts, .int .i64 ta, .int .i64 fs, .int .i64 fa, .int .i64 v], .agg #[.int .i64 i, .int .i64 j]] w fun e w' => e = .returned (.bool (vref i j ts ta true && (vref i j fs fa true && (inR v 32 126)))) ∧ Below w.heap.size w w' := by
  have B0 : Below w.heap.size w ((w.alloc (.cells #[.int .i64 ts, .int .i64 ta, .int .i64 fs, .int .i64 fa, .int .i64 v] 85)).alloc (.cells #[.int .i64 i, .int .i64 j] 37)) := ((Below.refl _ _).alloc (Nat.le_refl _) _).alloc (by simp) _
  have hz0 : w.heap.size + 1 < ((w.alloc (.cells #[.int .i64 ts, .int .i64 ta, .int .i64 fs, .int .i64 fa, .int .i64 v] 85)).alloc (.cells #[.int .i64 i, .int .i64 j] 37)).heap.size := by simp
  cases h1 : vref i j ts ta true
  · go_enter Tryz.func88, Tryz.ntmps88
    go_wp2_with (first | (go_at_call 90; refine (impl_isOptionalRef _ _ _ _ _).mono ?_; rintro e w1 ⟨rfl, hb1⟩; obtain ⟨B1, hz1, hc1, hd1⟩ := nextW2 (by assumption) (by assumption) hb1) | (go_at_call 52; refine (impl_inRange _ _ _ _).mono ?_; rintro e w' ⟨rfl, rfl⟩))
    go_ret
    exact ⟨ret_bool (by first | rfl | (simp; done)), by assumption⟩
  · cases h2 : vref i j fs fa true
    · go_enter Tryz.func88, Tryz.ntmps88
      go_wp2_with (first | (go_at_call 90; refine (impl_isOptionalRef _ _ _ _ _).mono ?_; rintro e w1 ⟨rfl, hb1⟩; obtain ⟨B1, hz1, hc1, hd1⟩ := nextW2 (by assumption) (by assumption) hb1) | (go_at_call 52; refine (impl_inRange _ _ _ _).mono ?_; rintro e w' ⟨rfl, rfl⟩))
      go_ret
      exact ⟨ret_bool (by first | rfl | (simp; done)), by assumption⟩
    · go_enter Tryz.func88, Tryz.ntmps88
      go_wp2_with (first | (go_at_call 90; refine (impl_isOptionalRef _ _ _ _ _).mono ?_; rintro e w1 ⟨rfl, hb1⟩; obtain ⟨B1, hz1, hc1, hd1⟩ := nextW2 (by assumption) (by assumption) hb1) | (go_at_call 52; refine (impl_inRange _ _ _ _).mono ?_; rintro e w' ⟨rfl, rfl⟩))
      go_ret
      exact ⟨ret_bool (by first | rfl | (simp; done)), by assumption⟩

set_option maxHeartbeats 1000000 in
theorem valid2 (i j : Int) (ts : Int) (ta : Int) (w : World) :
    Calls Tryz.prog 95 #[.agg #[.int .i64 ts, .int .i64 ta], .agg #[.int .i64 i, .int .i64 j]] w fun e w' => e = .returned (.bool (vref i j ts ta false)) ∧ Below w.heap.size w w' := by
  have B0 : Below w.heap.size w ((w.alloc (.cells #[.int .i64 ts, .int .i64 ta] 87)).alloc (.cells #[.int .i64 i, .int .i64 j] 37)) := ((Below.refl _ _).alloc (Nat.le_refl _) _).alloc (by simp) _
  have hz0 : w.heap.size + 1 < ((w.alloc (.cells #[.int .i64 ts, .int .i64 ta] 87)).alloc (.cells #[.int .i64 i, .int .i64 j] 37)).heap.size := by simp
  go_enter Tryz.func95, Tryz.ntmps95
  go_wp2_with (go_at_call 91; refine (isRef _ _ _ _ _).mono ?_; rintro e w1 ⟨rfl, hb1⟩; obtain ⟨B1, hz1, hc1, hd1⟩ := nextW2 (by assumption) (by assumption) hb1)
  go_ret
  exact ⟨ret_bool (by first | rfl | (simp; done)), by assumption⟩

set_option maxHeartbeats 1000000 in
theorem valid3 (i j : Int) (ts : Int) (ta : Int) (fs : Int) (fa : Int) (v : Int) (en : Bool) (w : World) :
    Calls Tryz.prog 99 #[.agg #[.int .i64 ts, .int .i64 ta, .int .i64 fs, .int .i64 fa, .int .i64 v, .bool en], .agg #[.int .i64 i, .int .i64 j]] w fun e w' => e = .returned (.bool (vref i j ts ta false && (vref i j fs fa false && (inR v 1 3)))) ∧ Below w.heap.size w w' := by
  have B0 : Below w.heap.size w ((w.alloc (.cells #[.int .i64 ts, .int .i64 ta, .int .i64 fs, .int .i64 fa, .int .i64 v, .bool en] 89)).alloc (.cells #[.int .i64 i, .int .i64 j] 37)) := ((Below.refl _ _).alloc (Nat.le_refl _) _).alloc (by simp) _
  have hz0 : w.heap.size + 1 < ((w.alloc (.cells #[.int .i64 ts, .int .i64 ta, .int .i64 fs, .int .i64 fa, .int .i64 v, .bool en] 89)).alloc (.cells #[.int .i64 i, .int .i64 j] 37)).heap.size := by simp
  cases h1 : vref i j ts ta false
  · go_enter Tryz.func99, Tryz.ntmps99
    go_wp2_with (first | (go_at_call 91; refine (isRef _ _ _ _ _).mono ?_; rintro e w1 ⟨rfl, hb1⟩; obtain ⟨B1, hz1, hc1, hd1⟩ := nextW2 (by assumption) (by assumption) hb1) | (go_at_call 52; refine (impl_inRange _ _ _ _).mono ?_; rintro e w' ⟨rfl, rfl⟩))
    go_ret
    exact ⟨ret_bool (by first | rfl | (simp; done)), by assumption⟩
  · cases h2 : vref i j fs fa false
    · go_enter Tryz.func99, Tryz.ntmps99
      go_wp2_with (first | (go_at_call 91; refine (isRef _ _ _ _ _).mono ?_; rintro e w1 ⟨rfl, hb1⟩; obtain ⟨B1, hz1, hc1, hd1⟩ := nextW2 (by assumption) (by assumption) hb1) | (go_at_call 52; refine (impl_inRange _ _ _ _).mono ?_; rintro e w' ⟨rfl, rfl⟩))
      go_ret
      exact ⟨ret_bool (by first | rfl | (simp; done)), by assumption⟩
    · go_enter Tryz.func99, Tryz.ntmps99
      go_wp2_with (first | (go_at_call 91; refine (isRef _ _ _ _ _).mono ?_; rintro e w1 ⟨rfl, hb1⟩; obtain ⟨B1, hz1, hc1, hd1⟩ := nextW2 (by assumption) (by assumption) hb1) | (go_at_call 52; refine (impl_inRange _ _ _ _).mono ?_; rintro e w' ⟨rfl, rfl⟩))
      go_ret
      exact ⟨ret_bool (by first | rfl | (simp; done)), by assumption⟩

set_option maxHeartbeats 1000000 in
theorem valid4 (i j : Int) (ts : Int) (ta : Int) (fs : Int) (fa : Int) (v : Int) (w : World) :
    Calls Tryz.prog 103 #[.agg #[.int .i64 ts, .int .i64 ta, .int .i64 fs, .int .i64 fa, .int .i64 v], .agg #[.int .i64 i, .int .i64 j]] w fun e w' => e = .returned (.bool (vref i j ts ta true && (vref i j fs fa true && (inR v 1 4)))) ∧ Below w.heap.size w w' := by
  have B0 : Below w.heap.size w ((w.alloc (.cells #[.int .i64 ts, .int .i64 ta, .int .i64 fs, .int .i64 fa, .int .i64 v] 91)).alloc (.cells #[.int .i64 i, .int .i64 j] 37)) := ((Below.refl _ _).alloc (Nat.le_refl _) _).alloc (by simp) _
  have hz0 : w.heap.size + 1 < ((w.alloc (.cells #[.int .i64 ts, .int .i64 ta, .int .i64 fs, .int .i64 fa, .int .i64 v] 91)).alloc (.cells #[.int .i64 i, .int .i64 j] 37)).heap.size := by simp
  cases h1 : vref i j ts ta true
  · go_enter Tryz.func103, Tryz.ntmps103
    go_wp2_with (first | (go_at_call 90; refine (impl_isOptionalRef _ _ _ _ _).mono ?_; rintro e w1 ⟨rfl, hb1⟩; obtain ⟨B1, hz1, hc1, hd1⟩ := nextW2 (by assumption) (by assumption) hb1) | (go_at_call 105; refine (impl_isBlockKind _ _).mono ?_; rintro e w' ⟨rfl, rfl⟩))
    go_ret
    exact ⟨ret_bool (by first | rfl | (simp; done)), by assumption⟩
  · cases h2 : vref i j fs fa true
    · go_enter Tryz.func103, Tryz.ntmps103
      go_wp2_with (first | (go_at_call 90; refine (impl_isOptionalRef _ _ _ _ _).mono ?_; rintro e w1 ⟨rfl, hb1⟩; obtain ⟨B1, hz1, hc1, hd1⟩ := nextW2 (by assumption) (by assumption) hb1) | (go_at_call 105; refine (impl_isBlockKind _ _).mono ?_; rintro e w' ⟨rfl, rfl⟩))
      go_ret
      exact ⟨ret_bool (by first | rfl | (simp; done)), by assumption⟩
    · go_enter Tryz.func103, Tryz.ntmps103
      go_wp2_with (first | (go_at_call 90; refine (impl_isOptionalRef _ _ _ _ _).mono ?_; rintro e w1 ⟨rfl, hb1⟩; obtain ⟨B1, hz1, hc1, hd1⟩ := nextW2 (by assumption) (by assumption) hb1) | (go_at_call 105; refine (impl_isBlockKind _ _).mono ?_; rintro e w' ⟨rfl, rfl⟩))
      go_ret
      exact ⟨ret_bool (by first | rfl | (simp; done)), by assumption⟩

set_option maxHeartbeats 1000000 in
theorem valid5 (i j : Int) (ts : Int) (ta : Int) (fs : Int) (fa : Int) (ns : Int) (na : Int) (w : World) :
    Calls Tryz.prog 108 #[.agg #[.int .i64 ts, .int .i64 ta, .int .i64 fs, .int .i64 fa, .int .i64 ns, .int .i64 na], .agg #[.int .i64 i, .int .i64 j]] w fun e w' => e = .returned (.bool (vref i j ts ta false && (vref i j fs fa true && (vref i j ns na true)))) ∧ Below w.heap.size w w' := by
  have B0 : Below w.heap.size w ((w.alloc (.cells #[.int .i64 ts, .int .i64 ta, .int .i64 fs, .int .i64 fa, .int .i64 ns, .int .i64 na] 93)).alloc (.cells #[.int .i64 i, .int .i64 j] 37)) := ((Below.refl _ _).alloc (Nat.le_refl _) _).alloc (by simp) _
  have hz0 : w.heap.size + 1 < ((w.alloc (.cells #[.int .i64 ts, .int .i64 ta, .int .i64 fs, .int .i64 fa, .int .i64 ns, .int .i64 na] 93)).alloc (.cells #[.int .i64 i, .int .i64 j] 37)).heap.size := by simp
  cases h1 : vref i j ts ta false
  · go_enter Tryz.func108, Tryz.ntmps108
    go_wp2_with (first | (go_at_call 91; refine (isRef _ _ _ _ _).mono ?_; rintro e w1 ⟨rfl, hb1⟩; obtain ⟨B1, hz1, hc1, hd1⟩ := nextW2 (by assumption) (by assumption) hb1) | (go_at_call 90; refine (impl_isOptionalRef _ _ _ _ _).mono ?_; rintro e w1 ⟨rfl, hb1⟩; obtain ⟨B1, hz1, hc1, hd1⟩ := nextW2 (by assumption) (by assumption) hb1))
    go_ret
    exact ⟨ret_bool (by first | rfl | (simp; done)), by assumption⟩
  · cases h2 : vref i j fs fa true
    · go_enter Tryz.func108, Tryz.ntmps108
      go_wp2_with (first | (go_at_call 91; refine (isRef _ _ _ _ _).mono ?_; rintro e w1 ⟨rfl, hb1⟩; obtain ⟨B1, hz1, hc1, hd1⟩ := nextW2 (by assumption) (by assumption) hb1) | (go_at_call 90; refine (impl_isOptionalRef _ _ _ _ _).mono ?_; rintro e w1 ⟨rfl, hb1⟩; obtain ⟨B1, hz1, hc1, hd1⟩ := nextW2 (by assumption) (by assumption) hb1))
      go_ret
      exact ⟨ret_bool (by first | rfl | (simp; done)), by assumption⟩
    · go_enter Tryz.func108, Tryz.ntmps108
      go_wp2_with (first | (go_at_call 91; refine (isRef _ _ _ _ _).mono ?_; rintro e w1 ⟨rfl, hb1⟩; obtain ⟨B1, hz1, hc1, hd1⟩ := nextW2 (by assumption) (by assumption) hb1) | (go_at_call 90; refine (impl_isOptionalRef _ _ _ _ _).mono ?_; rintro e w1 ⟨rfl, hb1⟩; obtain ⟨B1, hz1, hc1, hd1⟩ := nextW2 (by assumption) (by assumption) hb1))
      go_ret
      exact ⟨ret_bool (by first | rfl | (simp; done)), by assumption⟩

set_option maxHeartbeats 1000000 in
theorem valid6 (i j : Int) (ts : Int) (ta : Int) (v : Int) (w : World) :
    Calls Tryz.prog 112 #[.agg #[.int .i64 ts, .int .i64 ta, .int .i64 v], .agg #[.int .i64 i, .int .i64 j]] w fun e w' => e = .returned (.bool (vref i j ts ta false && (inR v 1 4))) ∧ Below w.heap.size w w' := by
  have B0 : Below w.heap.size w ((w.alloc (.cells #[.int .i64 ts, .int .i64 ta, .int .i64 v] 95)).alloc (.cells #[.int .i64 i, .int .i64 j] 37)) := ((Below.refl _ _).alloc (Nat.le_refl _) _).alloc (by simp) _
  have hz0 : w.heap.size + 1 < ((w.alloc (.cells #[.int .i64 ts, .int .i64 ta, .int .i64 v] 95)).alloc (.cells #[.int .i64 i, .int .i64 j] 37)).heap.size := by simp
  cases h1 : vref i j ts ta false
  · go_enter Tryz.func112, Tryz.ntmps112
    go_wp2_with (first | (go_at_call 91; refine (isRef _ _ _ _ _).mono ?_; rintro e w1 ⟨rfl, hb1⟩; obtain ⟨B1, hz1, hc1, hd1⟩ := nextW2 (by assumption) (by assumption) hb1) | (go_at_call 105; refine (impl_isBlockKind _ _).mono ?_; rintro e w' ⟨rfl, rfl⟩))
    go_ret
    exact ⟨ret_bool (by first | rfl | (simp; done)), by assumption⟩
  · go_enter Tryz.func112, Tryz.ntmps112
    go_wp2_with (first | (go_at_call 91; refine (isRef _ _ _ _ _).mono ?_; rintro e w1 ⟨rfl, hb1⟩; obtain ⟨B1, hz1, hc1, hd1⟩ := nextW2 (by assumption) (by assumption) hb1) | (go_at_call 105; refine (impl_isBlockKind _ _).mono ?_; rintro e w' ⟨rfl, rfl⟩))
    go_ret
    exact ⟨ret_bool (by first | rfl | (simp; done)), by assumption⟩

set_option maxHeartbeats 1000000 in
theorem valid7 (i j : Int) (ts : Int) (ta : Int) (w : World) :
    Calls Tryz.prog 116 #[.agg #[.int .i64 ts, .int .i64 ta], .agg #[.int .i64 i, .int .i64 j]] w fun e w' => e = .returned (.bool (vref i j ts ta false)) ∧ Below w.heap.size w w' := by
  have B0 : Below w.heap.size w ((w.alloc (.cells #[.int .i64 ts, .int .i64 ta] 97)).alloc (.cells #[.int .i64 i, .int .i64 j] 37)) := ((Below.refl _ _).alloc (Nat.le_refl _) _).alloc (by simp) _
  have hz0 : w.heap.size + 1 < ((w.alloc (.cells #[.int .i64 ts, .int .i64 ta] 97)).alloc (.cells #[.int .i64 i, .int .i64 j] 37)).heap.size := by simp
  go_enter Tryz.func116, Tryz.ntmps116
  go_wp2_with (go_at_call 91; refine (isRef _ _ _ _ _).mono ?_; rintro e w1 ⟨rfl, hb1⟩; obtain ⟨B1, hz1, hc1, hd1⟩ := nextW2 (by assumption) (by assumption) hb1)
  go_ret
  exact ⟨ret_bool (by first | rfl | (simp; done)), by assumption⟩

set_option maxHeartbeats 1000000 in
theorem valid8 (i j : Int) (ts : Int) (ta : Int) (fs : Int) (fa : Int) (tx : ByteArray) (w : World) (hs : tx.size ≤ maxLen) :
    Calls Tryz.prog 120 #[.agg #[.int .i64 ts, .int .i64 ta, .int .i64 fs, .int .i64 fa, .string tx], .agg #[.int .i64 i, .int .i64 j]] w fun e w' => e = .returned (.bool (vref i j ts ta false && (vref i j fs fa false && (wordB tx.data.toList)))) ∧ Below w.heap.size w w' := by
  have B0 : Below w.heap.size w ((w.alloc (.cells #[.int .i64 ts, .int .i64 ta, .int .i64 fs, .int .i64 fa, .string tx] 99)).alloc (.cells #[.int .i64 i, .int .i64 j] 37)) := ((Below.refl _ _).alloc (Nat.le_refl _) _).alloc (by simp) _
  have hz0 : w.heap.size + 1 < ((w.alloc (.cells #[.int .i64 ts, .int .i64 ta, .int .i64 fs, .int .i64 fa, .string tx] 99)).alloc (.cells #[.int .i64 i, .int .i64 j] 37)).heap.size := by simp
  cases h1 : vref i j ts ta false
  · go_enter Tryz.func120, Tryz.ntmps120
    go_wp2_with (first | (go_at_call 91; refine (isRef _ _ _ _ _).mono ?_; rintro e w1 ⟨rfl, hb1⟩; obtain ⟨B1, hz1, hc1, hd1⟩ := nextW2 (by assumption) (by assumption) hb1) | (go_at_call 122; refine (impl_isWord _ _ hs).mono ?_; rintro e w' ⟨rfl, rfl⟩))
    go_ret
    exact ⟨ret_bool (by first | rfl | (simp; done)), by assumption⟩
  · cases h2 : vref i j fs fa false
    · go_enter Tryz.func120, Tryz.ntmps120
      go_wp2_with (first | (go_at_call 91; refine (isRef _ _ _ _ _).mono ?_; rintro e w1 ⟨rfl, hb1⟩; obtain ⟨B1, hz1, hc1, hd1⟩ := nextW2 (by assumption) (by assumption) hb1) | (go_at_call 122; refine (impl_isWord _ _ hs).mono ?_; rintro e w' ⟨rfl, rfl⟩))
      go_ret
      exact ⟨ret_bool (by first | rfl | (simp; done)), by assumption⟩
    · go_enter Tryz.func120, Tryz.ntmps120
      go_wp2_with (first | (go_at_call 91; refine (isRef _ _ _ _ _).mono ?_; rintro e w1 ⟨rfl, hb1⟩; obtain ⟨B1, hz1, hc1, hd1⟩ := nextW2 (by assumption) (by assumption) hb1) | (go_at_call 122; refine (impl_isWord _ _ hs).mono ?_; rintro e w' ⟨rfl, rfl⟩))
      go_ret
      exact ⟨ret_bool (by first | rfl | (simp; done)), by assumption⟩

set_option maxHeartbeats 1000000 in
theorem valid9 (i j : Int) (ts : Int) (ta : Int) (tx : ByteArray) (w : World) (hs : tx.size ≤ maxLen) :
    Calls Tryz.prog 125 #[.agg #[.int .i64 ts, .int .i64 ta, .string tx], .agg #[.int .i64 i, .int .i64 j]] w fun e w' => e = .returned (.bool (vref i j ts ta false && (wordB tx.data.toList))) ∧ Below w.heap.size w w' := by
  have B0 : Below w.heap.size w ((w.alloc (.cells #[.int .i64 ts, .int .i64 ta, .string tx] 101)).alloc (.cells #[.int .i64 i, .int .i64 j] 37)) := ((Below.refl _ _).alloc (Nat.le_refl _) _).alloc (by simp) _
  have hz0 : w.heap.size + 1 < ((w.alloc (.cells #[.int .i64 ts, .int .i64 ta, .string tx] 101)).alloc (.cells #[.int .i64 i, .int .i64 j] 37)).heap.size := by simp
  cases h1 : vref i j ts ta false
  · go_enter Tryz.func125, Tryz.ntmps125
    go_wp2_with (first | (go_at_call 91; refine (isRef _ _ _ _ _).mono ?_; rintro e w1 ⟨rfl, hb1⟩; obtain ⟨B1, hz1, hc1, hd1⟩ := nextW2 (by assumption) (by assumption) hb1) | (go_at_call 122; refine (impl_isWord _ _ hs).mono ?_; rintro e w' ⟨rfl, rfl⟩))
    go_ret
    exact ⟨ret_bool (by first | rfl | (simp; done)), by assumption⟩
  · go_enter Tryz.func125, Tryz.ntmps125
    go_wp2_with (first | (go_at_call 91; refine (isRef _ _ _ _ _).mono ?_; rintro e w1 ⟨rfl, hb1⟩; obtain ⟨B1, hz1, hc1, hd1⟩ := nextW2 (by assumption) (by assumption) hb1) | (go_at_call 122; refine (impl_isWord _ _ hs).mono ?_; rintro e w' ⟨rfl, rfl⟩))
    go_ret
    exact ⟨ret_bool (by first | rfl | (simp; done)), by assumption⟩

set_option maxHeartbeats 1000000 in
theorem valid10 (i j : Int) (ts : Int) (ta : Int) (en : Bool) (w : World) :
    Calls Tryz.prog 129 #[.agg #[.int .i64 ts, .int .i64 ta, .bool en], .agg #[.int .i64 i, .int .i64 j]] w fun e w' => e = .returned (.bool (vref i j ts ta false)) ∧ Below w.heap.size w w' := by
  have B0 : Below w.heap.size w ((w.alloc (.cells #[.int .i64 ts, .int .i64 ta, .bool en] 103)).alloc (.cells #[.int .i64 i, .int .i64 j] 37)) := ((Below.refl _ _).alloc (Nat.le_refl _) _).alloc (by simp) _
  have hz0 : w.heap.size + 1 < ((w.alloc (.cells #[.int .i64 ts, .int .i64 ta, .bool en] 103)).alloc (.cells #[.int .i64 i, .int .i64 j] 37)).heap.size := by simp
  go_enter Tryz.func129, Tryz.ntmps129
  go_wp2_with (go_at_call 91; refine (isRef _ _ _ _ _).mono ?_; rintro e w1 ⟨rfl, hb1⟩; obtain ⟨B1, hz1, hc1, hd1⟩ := nextW2 (by assumption) (by assumption) hb1)
  go_ret
  exact ⟨ret_bool (by first | rfl | (simp; done)), by assumption⟩

end Go.Proofs.YtlogpbejfifgdaaGreat.OpE
