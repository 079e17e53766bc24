/-
  Contracts of the methods valid of an operation without its ID, kind by kind. For every argument whose text is a Go string; no condition.
-/
import Derived.Test.YtdbnflgckcjlcaaOpD
namespace Go.Proofs.Ytdbnflgckcjlcaa.OpE
open Go.RowKit Go.Proofs.Ytdbnflgckcjlcaa.Base Go.Proofs.Ytdbnflgckcjlcaa.St Go.Proofs.Ytdbnflgckcjlcaa.StB Go.Proofs.Ytdbnflgckcjlcaa.OpA Go.Proofs.Ytdbnflgckcjlcaa.OpW Go.Proofs.Ytdbnflgckcjlcaa.OpB Go.Proofs.Ytdbnflgckcjlcaa.OpD
set_option linter.unusedVariables false

set_option maxHeartbeats 1000000 in
theorem valid1 (i j : Int) (ts : Int) (ta : Int) (fs : Int) (fa : Int) (v : Int) (w : World) :
    Calls Try.prog 125 #[.agg #[.int .i64 ts, .int .i64 ta, .int .i64 fs, .int .i64 fa, .int .i64 v], .agg #[.int .i64 i, .int .i64 j]] w fun e w' => e = .returned (.bool (vref i j ts ta true && (vref i j fs fa true && (inR v 32 126)))) ∧ Below w.heap.size w w' := by
  have B0 : Below w.heap.size w ((w.alloc (.cells #[.int .i64 ts, .int .i64 ta, .int .i64 fs, .int .i64 fa, .int .i64 v] 137)).alloc (.cells #[.int .i64 i, .int .i64 j] 61)) := ((Below.refl _ _).alloc (Nat.le_refl _) _).alloc (by simp) _
  have hz0 : w.heap.size + 1 < ((w.alloc (.cells #[.int .i64 ts, .int .i64 ta, .int .i64 fs, .int .i64 fa, .int .i64 v] 137)).alloc (.cells #[.int .i64 i, .int .i64 j] 61)).heap.size := by simp
  cases h1 : vref i j ts ta true
  · go_enter Try.func125, Try.ntmps125
    go_wp2_with (first | (go_at_call 127; refine (impl_isOptionalRef _ _ _ _ _).mono ?_; rintro e w1 ⟨rfl, hb1⟩; obtain ⟨B1, hz1, hc1, hd1⟩ := nextW2 (by assumption) (by assumption) hb1) | (go_at_call 83; refine (impl_inRange _ _ _ _).mono ?_; rintro e w' ⟨rfl, rfl⟩))
    go_ret
    exact ⟨ret_bool (by first | rfl | (simp; done)), by assumption⟩
  · cases h2 : vref i j fs fa true
    · go_enter Try.func125, Try.ntmps125
      go_wp2_with (first | (go_at_call 127; refine (impl_isOptionalRef _ _ _ _ _).mono ?_; rintro e w1 ⟨rfl, hb1⟩; obtain ⟨B1, hz1, hc1, hd1⟩ := nextW2 (by assumption) (by assumption) hb1) | (go_at_call 83; refine (impl_inRange _ _ _ _).mono ?_; rintro e w' ⟨rfl, rfl⟩))
      go_ret
      exact ⟨ret_bool (by first | rfl | (simp; done)), by assumption⟩
    · go_enter Try.func125, Try.ntmps125
      go_wp2_with (first | (go_at_call 127; refine (impl_isOptionalRef _ _ _ _ _).mono ?_; rintro e w1 ⟨rfl, hb1⟩; obtain ⟨B1, hz1, hc1, hd1⟩ := nextW2 (by assumption) (by assumption) hb1) | (go_at_call 83; refine (impl_inRange _ _ _ _).mono ?_; rintro e w' ⟨rfl, rfl⟩))
      go_ret
      exact ⟨ret_bool (by first | rfl | (simp; done)), by assumption⟩

set_option maxHeartbeats 1000000 in
theorem valid2 (i j : Int) (ts : Int) (ta : Int) (w : World) :
    Calls Try.prog 131 #[.agg #[.int .i64 ts, .int .i64 ta], .agg #[.int .i64 i, .int .i64 j]] w fun e w' => e = .returned (.bool (vref i j ts ta false)) ∧ Below w.heap.size w w' := by
  have B0 : Below w.heap.size w ((w.alloc (.cells #[.int .i64 ts, .int .i64 ta] 139)).alloc (.cells #[.int .i64 i, .int .i64 j] 61)) := ((Below.refl _ _).alloc (Nat.le_refl _) _).alloc (by simp) _
  have hz0 : w.heap.size + 1 < ((w.alloc (.cells #[.int .i64 ts, .int .i64 ta] 139)).alloc (.cells #[.int .i64 i, .int .i64 j] 61)).heap.size := by simp
  go_enter Try.func131, Try.ntmps131
  go_wp2_with (go_at_call 128; refine (isRef _ _ _ _ _).mono ?_; rintro e w1 ⟨rfl, hb1⟩; obtain ⟨B1, hz1, hc1, hd1⟩ := nextW2 (by assumption) (by assumption) hb1)
  go_ret
  exact ⟨ret_bool (by first | rfl | (simp; done)), by assumption⟩

set_option maxHeartbeats 1000000 in
theorem valid3 (i j : Int) (ts : Int) (ta : Int) (fs : Int) (fa : Int) (v : Int) (en : Bool) (w : World) :
    Calls Try.prog 135 #[.agg #[.int .i64 ts, .int .i64 ta, .int .i64 fs, .int .i64 fa, .int .i64 v, .bool en], .agg #[.int .i64 i, .int .i64 j]] w fun e w' => e = .returned (.bool (vref i j ts ta false && (vref i j fs fa false && (inR v 1 3)))) ∧ Below w.heap.size w w' := by
  have B0 : Below w.heap.size w ((w.alloc (.cells #[.int .i64 ts, .int .i64 ta, .int .i64 fs, .int .i64 fa, .int .i64 v, .bool en] 141)).alloc (.cells #[.int .i64 i, .int .i64 j] 61)) := ((Below.refl _ _).alloc (Nat.le_refl _) _).alloc (by simp) _
  have hz0 : w.heap.size + 1 < ((w.alloc (.cells #[.int .i64 ts, .int .i64 ta, .int .i64 fs, .int .i64 fa, .int .i64 v, .bool en] 141)).alloc (.cells #[.int .i64 i, .int .i64 j] 61)).heap.size := by simp
  cases h1 : vref i j ts ta false
  · go_enter Try.func135, Try.ntmps135
    go_wp2_with (first | (go_at_call 128; refine (isRef _ _ _ _ _).mono ?_; rintro e w1 ⟨rfl, hb1⟩; obtain ⟨B1, hz1, hc1, hd1⟩ := nextW2 (by assumption) (by assumption) hb1) | (go_at_call 83; refine (impl_inRange _ _ _ _).mono ?_; rintro e w' ⟨rfl, rfl⟩))
    go_ret
    exact ⟨ret_bool (by first | rfl | (simp; done)), by assumption⟩
  · cases h2 : vref i j fs fa false
    · go_enter Try.func135, Try.ntmps135
      go_wp2_with (first | (go_at_call 128; refine (isRef _ _ _ _ _).mono ?_; rintro e w1 ⟨rfl, hb1⟩; obtain ⟨B1, hz1, hc1, hd1⟩ := nextW2 (by assumption) (by assumption) hb1) | (go_at_call 83; refine (impl_inRange _ _ _ _).mono ?_; rintro e w' ⟨rfl, rfl⟩))
      go_ret
      exact ⟨ret_bool (by first | rfl | (simp; done)), by assumption⟩
    · go_enter Try.func135, Try.ntmps135
      go_wp2_with (first | (go_at_call 128; refine (isRef _ _ _ _ _).mono ?_; rintro e w1 ⟨rfl, hb1⟩; obtain ⟨B1, hz1, hc1, hd1⟩ := nextW2 (by assumption) (by assumption) hb1) | (go_at_call 83; refine (impl_inRange _ _ _ _).mono ?_; rintro e w' ⟨rfl, rfl⟩))
      go_ret
      exact ⟨ret_bool (by first | rfl | (simp; done)), by assumption⟩

set_option maxHeartbeats 1000000 in
theorem valid4 (i j : Int) (ts : Int) (ta : Int) (fs : Int) (fa : Int) (v : Int) (w : World) :
    Calls Try.prog 139 #[.agg #[.int .i64 ts, .int .i64 ta, .int .i64 fs, .int .i64 fa, .int .i64 v], .agg #[.int .i64 i, .int .i64 j]] w fun e w' => e = .returned (.bool (vref i j ts ta true && (vref i j fs fa true && (inR v 1 4)))) ∧ Below w.heap.size w w' := by
  have B0 : Below w.heap.size w ((w.alloc (.cells #[.int .i64 ts, .int .i64 ta, .int .i64 fs, .int .i64 fa, .int .i64 v] 143)).alloc (.cells #[.int .i64 i, .int .i64 j] 61)) := ((Below.refl _ _).alloc (Nat.le_refl _) _).alloc (by simp) _
  have hz0 : w.heap.size + 1 < ((w.alloc (.cells #[.int .i64 ts, .int .i64 ta, .int .i64 fs, .int .i64 fa, .int .i64 v] 143)).alloc (.cells #[.int .i64 i, .int .i64 j] 61)).heap.size := by simp
  cases h1 : vref i j ts ta true
  · go_enter Try.func139, Try.ntmps139
    go_wp2_with (first | (go_at_call 127; refine (impl_isOptionalRef _ _ _ _ _).mono ?_; rintro e w1 ⟨rfl, hb1⟩; obtain ⟨B1, hz1, hc1, hd1⟩ := nextW2 (by assumption) (by assumption) hb1) | (go_at_call 141; refine (impl_isBlockKind _ _).mono ?_; rintro e w' ⟨rfl, rfl⟩))
    go_ret
    exact ⟨ret_bool (by first | rfl | (simp; done)), by assumption⟩
  · cases h2 : vref i j fs fa true
    · go_enter Try.func139, Try.ntmps139
      go_wp2_with (first | (go_at_call 127; refine (impl_isOptionalRef _ _ _ _ _).mono ?_; rintro e w1 ⟨rfl, hb1⟩; obtain ⟨B1, hz1, hc1, hd1⟩ := nextW2 (by assumption) (by assumption) hb1) | (go_at_call 141; refine (impl_isBlockKind _ _).mono ?_; rintro e w' ⟨rfl, rfl⟩))
      go_ret
      exact ⟨ret_bool (by first | rfl | (simp; done)), by assumption⟩
    · go_enter Try.func139, Try.ntmps139
      go_wp2_with (first | (go_at_call 127; refine (impl_isOptionalRef _ _ _ _ _).mono ?_; rintro e w1 ⟨rfl, hb1⟩; obtain ⟨B1, hz1, hc1, hd1⟩ := nextW2 (by assumption) (by assumption) hb1) | (go_at_call 141; refine (impl_isBlockKind _ _).mono ?_; rintro e w' ⟨rfl, rfl⟩))
      go_ret
      exact ⟨ret_bool (by first | rfl | (simp; done)), by assumption⟩

set_option maxHeartbeats 1000000 in
theorem valid5 (i j : Int) (ts : Int) (ta : Int) (fs : Int) (fa : Int) (ns : Int) (na : Int) (w : World) :
    Calls Try.prog 144 #[.agg #[.int .i64 ts, .int .i64 ta, .int .i64 fs, .int .i64 fa, .int .i64 ns, .int .i64 na], .agg #[.int .i64 i, .int .i64 j]] w fun e w' => e = .returned (.bool (vref i j ts ta false && (vref i j fs fa true && (vref i j ns na true)))) ∧ Below w.heap.size w w' := by
  have B0 : Below w.heap.size w ((w.alloc (.cells #[.int .i64 ts, .int .i64 ta, .int .i64 fs, .int .i64 fa, .int .i64 ns, .int .i64 na] 145)).alloc (.cells #[.int .i64 i, .int .i64 j] 61)) := ((Below.refl _ _).alloc (Nat.le_refl _) _).alloc (by simp) _
  have hz0 : w.heap.size + 1 < ((w.alloc (.cells #[.int .i64 ts, .int .i64 ta, .int .i64 fs, .int .i64 fa, .int .i64 ns, .int .i64 na] 145)).alloc (.cells #[.int .i64 i, .int .i64 j] 61)).heap.size := by simp
  cases h1 : vref i j ts ta false
  · go_enter Try.func144, Try.ntmps144
    go_wp2_with (first | (go_at_call 128; refine (isRef _ _ _ _ _).mono ?_; rintro e w1 ⟨rfl, hb1⟩; obtain ⟨B1, hz1, hc1, hd1⟩ := nextW2 (by assumption) (by assumption) hb1) | (go_at_call 127; refine (impl_isOptionalRef _ _ _ _ _).mono ?_; rintro e w1 ⟨rfl, hb1⟩; obtain ⟨B1, hz1, hc1, hd1⟩ := nextW2 (by assumption) (by assumption) hb1))
    go_ret
    exact ⟨ret_bool (by first | rfl | (simp; done)), by assumption⟩
  · cases h2 : vref i j fs fa true
    · go_enter Try.func144, Try.ntmps144
      go_wp2_with (first | (go_at_call 128; refine (isRef _ _ _ _ _).mono ?_; rintro e w1 ⟨rfl, hb1⟩; obtain ⟨B1, hz1, hc1, hd1⟩ := nextW2 (by assumption) (by assumption) hb1) | (go_at_call 127; refine (impl_isOptionalRef _ _ _ _ _).mono ?_; rintro e w1 ⟨rfl, hb1⟩; obtain ⟨B1, hz1, hc1, hd1⟩ := nextW2 (by assumption) (by assumption) hb1))
      go_ret
      exact ⟨ret_bool (by first | rfl | (simp; done)), by assumption⟩
    · go_enter Try.func144, Try.ntmps144
      go_wp2_with (first | (go_at_call 128; refine (isRef _ _ _ _ _).mono ?_; rintro e w1 ⟨rfl, hb1⟩; obtain ⟨B1, hz1, hc1, hd1⟩ := nextW2 (by assumption) (by assumption) hb1) | (go_at_call 127; refine (impl_isOptionalRef _ _ _ _ _).mono ?_; rintro e w1 ⟨rfl, hb1⟩; obtain ⟨B1, hz1, hc1, hd1⟩ := nextW2 (by assumption) (by assumption) hb1))
      go_ret
      exact ⟨ret_bool (by first | rfl | (simp; done)), by assumption⟩

set_option maxHeartbeats 1000000 in
theorem valid6 (i j : Int) (ts : Int) (ta : Int) (v : Int) (w : World) :
    Calls Try.prog 148 #[.agg #[.int .i64 ts, .int .i64 ta, .int .i64 v], .agg #[.int .i64 i, .int .i64 j]] w fun e w' => e = .returned (.bool (vref i j ts ta false && (inR v 1 4))) ∧ Below w.heap.size w w' := by
  have B0 : Below w.heap.size w ((w.alloc (.cells #[.int .i64 ts, .int .i64 ta, .int .i64 v] 147)).alloc (.cells #[.int .i64 i, .int .i64 j] 61)) := ((Below.refl _ _).alloc (Nat.le_refl _) _).alloc (by simp) _
  have hz0 : w.heap.size + 1 < ((w.alloc (.cells #[.int .i64 ts, .int .i64 ta, .int .i64 v] 147)).alloc (.cells #[.int .i64 i, .int .i64 j] 61)).heap.size := by simp
  cases h1 : vref i j ts ta false
  · go_enter Try.func148, Try.ntmps148
    go_wp2_with (first | (go_at_call 128; refine (isRef _ _ _ _ _).mono ?_; rintro e w1 ⟨rfl, hb1⟩; obtain ⟨B1, hz1, hc1, hd1⟩ := nextW2 (by assumption) (by assumption) hb1) | (go_at_call 141; refine (impl_isBlockKind _ _).mono ?_; rintro e w' ⟨rfl, rfl⟩))
    go_ret
    exact ⟨ret_bool (by first | rfl | (simp; done)), by assumption⟩
  · go_enter Try.func148, Try.ntmps148
    go_wp2_with (first | (go_at_call 128; refine (isRef _ _ _ _ _).mono ?_; rintro e w1 ⟨rfl, hb1⟩; obtain ⟨B1, hz1, hc1, hd1⟩ := nextW2 (by assumption) (by assumption) hb1) | (go_at_call 141; refine (impl_isBlockKind _ _).mono ?_; rintro e w' ⟨rfl, rfl⟩))
    go_ret
    exact ⟨ret_bool (by first | rfl | (simp; done)), by assumption⟩

set_option maxHeartbeats 1000000 in
theorem valid7 (i j : Int) (ts : Int) (ta : Int) (w : World) :
    Calls Try.prog 152 #[.agg #[.int .i64 ts, .int .i64 ta], .agg #[.int .i64 i, .int .i64 j]] w fun e w' => e = .returned (.bool (vref i j ts ta false)) ∧ Below w.heap.size w w' := by
  have B0 : Below w.heap.size w ((w.alloc (.cells #[.int .i64 ts, .int .i64 ta] 149)).alloc (.cells #[.int .i64 i, .int .i64 j] 61)) := ((Below.refl _ _).alloc (Nat.le_refl _) _).alloc (by simp) _
  have hz0 : w.heap.size + 1 < ((w.alloc (.cells #[.int .i64 ts, .int .i64 ta] 149)).alloc (.cells #[.int .i64 i, .int .i64 j] 61)).heap.size := by simp
  go_enter Try.func152, Try.ntmps152
  go_wp2_with (go_at_call 128; refine (isRef _ _ _ _ _).mono ?_; rintro e w1 ⟨rfl, hb1⟩; obtain ⟨B1, hz1, hc1, hd1⟩ := nextW2 (by assumption) (by assumption) hb1)
  go_ret
  exact ⟨ret_bool (by first | rfl | (simp; done)), by assumption⟩

set_option maxHeartbeats 1000000 in
theorem valid8 (i j : Int) (ts : Int) (ta : Int) (fs : Int) (fa : Int) (tx : ByteArray) (w : World) (hs : tx.size ≤ maxLen) :
    Calls Try.prog 156 #[.agg #[.int .i64 ts, .int .i64 ta, .int .i64 fs, .int .i64 fa, .string tx], .agg #[.int .i64 i, .int .i64 j]] w fun e w' => e = .returned (.bool (vref i j ts ta false && (vref i j fs fa false && (wordB tx.data.toList)))) ∧ Below w.heap.size w w' := by
  have B0 : Below w.heap.size w ((w.alloc (.cells #[.int .i64 ts, .int .i64 ta, .int .i64 fs, .int .i64 fa, .string tx] 151)).alloc (.cells #[.int .i64 i, .int .i64 j] 61)) := ((Below.refl _ _).alloc (Nat.le_refl _) _).alloc (by simp) _
  have hz0 : w.heap.size + 1 < ((w.alloc (.cells #[.int .i64 ts, .int .i64 ta, .int .i64 fs, .int .i64 fa, .string tx] 151)).alloc (.cells #[.int .i64 i, .int .i64 j] 61)).heap.size := by simp
  cases h1 : vref i j ts ta false
  · go_enter Try.func156, Try.ntmps156
    go_wp2_with (first | (go_at_call 128; refine (isRef _ _ _ _ _).mono ?_; rintro e w1 ⟨rfl, hb1⟩; obtain ⟨B1, hz1, hc1, hd1⟩ := nextW2 (by assumption) (by assumption) hb1) | (go_at_call 158; refine (impl_isWord _ _ hs).mono ?_; rintro e w' ⟨rfl, rfl⟩))
    go_ret
    exact ⟨ret_bool (by first | rfl | (simp; done)), by assumption⟩
  · cases h2 : vref i j fs fa false
    · go_enter Try.func156, Try.ntmps156
      go_wp2_with (first | (go_at_call 128; refine (isRef _ _ _ _ _).mono ?_; rintro e w1 ⟨rfl, hb1⟩; obtain ⟨B1, hz1, hc1, hd1⟩ := nextW2 (by assumption) (by assumption) hb1) | (go_at_call 158; refine (impl_isWord _ _ hs).mono ?_; rintro e w' ⟨rfl, rfl⟩))
      go_ret
      exact ⟨ret_bool (by first | rfl | (simp; done)), by assumption⟩
    · go_enter Try.func156, Try.ntmps156
      go_wp2_with (first | (go_at_call 128; refine (isRef _ _ _ _ _).mono ?_; rintro e w1 ⟨rfl, hb1⟩; obtain ⟨B1, hz1, hc1, hd1⟩ := nextW2 (by assumption) (by assumption) hb1) | (go_at_call 158; refine (impl_isWord _ _ hs).mono ?_; rintro e w' ⟨rfl, rfl⟩))
      go_ret
      exact ⟨ret_bool (by first | rfl | (simp; done)), by assumption⟩

set_option maxHeartbeats 1000000 in
theorem valid9 (i j : Int) (ts : Int) (ta : Int) (tx : ByteArray) (w : World) (hs : tx.size ≤ maxLen) :
    Calls Try.prog 161 #[.agg #[.int .i64 ts, .int .i64 ta, .string tx], .agg #[.int .i64 i, .int .i64 j]] w fun e w' => e = .returned (.bool (vref i j ts ta false && (wordB tx.data.toList))) ∧ Below w.heap.size w w' := by
  have B0 : Below w.heap.size w ((w.alloc (.cells #[.int .i64 ts, .int .i64 ta, .string tx] 153)).alloc (.cells #[.int .i64 i, .int .i64 j] 61)) := ((Below.refl _ _).alloc (Nat.le_refl _) _).alloc (by simp) _
  have hz0 : w.heap.size + 1 < ((w.alloc (.cells #[.int .i64 ts, .int .i64 ta, .string tx] 153)).alloc (.cells #[.int .i64 i, .int .i64 j] 61)).heap.size := by simp
  cases h1 : vref i j ts ta false
  · go_enter Try.func161, Try.ntmps161
    go_wp2_with (first | (go_at_call 128; refine (isRef _ _ _ _ _).mono ?_; rintro e w1 ⟨rfl, hb1⟩; obtain ⟨B1, hz1, hc1, hd1⟩ := nextW2 (by assumption) (by assumption) hb1) | (go_at_call 158; refine (impl_isWord _ _ hs).mono ?_; rintro e w' ⟨rfl, rfl⟩))
    go_ret
    exact ⟨ret_bool (by first | rfl | (simp; done)), by assumption⟩
  · go_enter Try.func161, Try.ntmps161
    go_wp2_with (first | (go_at_call 128; refine (isRef _ _ _ _ _).mono ?_; rintro e w1 ⟨rfl, hb1⟩; obtain ⟨B1, hz1, hc1, hd1⟩ := nextW2 (by assumption) (by assumption) hb1) | (go_at_call 158; refine (impl_isWord _ _ hs).mono ?_; rintro e w' ⟨rfl, rfl⟩))
    go_ret
    exact ⟨ret_bool (by first | rfl | (simp; done)), by assumption⟩

set_option maxHeartbeats 1000000 in
theorem valid10 (i j : Int) (ts : Int) (ta : Int) (en : Bool) (w : World) :
    Calls Try.prog 165 #[.agg #[.int .i64 ts, .int .i64 ta, .bool en], .agg #[.int .i64 i, .int .i64 j]] w fun e w' => e = .returned (.bool (vref i j ts ta false)) ∧ Below w.heap.size w w' := by
  have B0 : Below w.heap.size w ((w.alloc (.cells #[.int .i64 ts, .int .i64 ta, .bool en] 155)).alloc (.cells #[.int .i64 i, .int .i64 j] 61)) := ((Below.refl _ _).alloc (Nat.le_refl _) _).alloc (by simp) _
  have hz0 : w.heap.size + 1 < ((w.alloc (.cells #[.int .i64 ts, .int .i64 ta, .bool en] 155)).alloc (.cells #[.int .i64 i, .int .i64 j] 61)).heap.size := by simp
  go_enter Try.func165, Try.ntmps165
  go_wp2_with (go_at_call 128; refine (isRef _ _ _ _ _).mono ?_; rintro e w1 ⟨rfl, hb1⟩; obtain ⟨B1, hz1, hc1, hd1⟩ := nextW2 (by assumption) (by assumption) hb1)
  go_ret
  exact ⟨ret_bool (by first | rfl | (simp; done)), by assumption⟩

end Go.Proofs.Ytdbnflgckcjlcaa.OpE
