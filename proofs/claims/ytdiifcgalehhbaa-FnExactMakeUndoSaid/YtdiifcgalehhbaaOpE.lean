/-
  Contracts of the methods valid of an operation without its ID, kind by kind. For every argument whose text is a Go string; no condition.
-/
import Derived.Test.YtdiifcgalehhbaaOpD
namespace Go.Proofs.Ytdiifcgalehhbaa.OpE
open Go.RowKit Go.Proofs.Ytdiifcgalehhbaa.Base Go.Proofs.Ytdiifcgalehhbaa.St Go.Proofs.Ytdiifcgalehhbaa.StB Go.Proofs.Ytdiifcgalehhbaa.OpA Go.Proofs.Ytdiifcgalehhbaa.OpW Go.Proofs.Ytdiifcgalehhbaa.OpB Go.Proofs.Ytdiifcgalehhbaa.OpD
set_option linter.unusedVariables false

set_option maxHeartbeats 1000000 in
theorem valid1 (i j : Int) (ts : Int) (ta : Int) (fs : Int) (fa : Int) (v : Int) (w : World) :
    Calls Try.prog 89 #[.agg #[.int .i64 ts, .int .i64 ta, .int .i64 fs, .int .i64 fa, .int .i64 v], .agg #[.int .i64 i, .int .i64 j]] w fun e w' => e = .returned (.bool (vref i j ts ta true && (vref i j fs fa true && (inR v 32 126)))) ∧ Below w.heap.size w w' := by
  have B0 : Below w.heap.size w ((w.alloc (.cells #[.int .i64 ts, .int .i64 ta, .int .i64 fs, .int .i64 fa, .int .i64 v] 104)).alloc (.cells #[.int .i64 i, .int .i64 j] 26)) := ((Below.refl _ _).alloc (Nat.le_refl _) _).alloc (by simp) _
  have hz0 : w.heap.size + 1 < ((w.alloc (.cells #[.int .i64 ts, .int .i64 ta, .int .i64 fs, .int .i64 fa, .int .i64 v] 104)).alloc (.cells #[.int .i64 i, .int .i64 j] 26)).heap.size := by simp
  cases h1 : vref i j ts ta true
  · go_enter Try.func89, Try.ntmps89
    go_wp2_with (first | (go_at_call 91; refine (impl_isOptionalRef _ _ _ _ _).mono ?_; rintro e w1 ⟨rfl, hb1⟩; obtain ⟨B1, hz1, hc1, hd1⟩ := nextW2 (by assumption) (by assumption) hb1) | (go_at_call 57; refine (impl_inRange _ _ _ _).mono ?_; rintro e w' ⟨rfl, rfl⟩))
    go_ret
    exact ⟨ret_bool (by first | rfl | (simp; done)), by assumption⟩
  · cases h2 : vref i j fs fa true
    · go_enter Try.func89, Try.ntmps89
      go_wp2_with (first | (go_at_call 91; refine (impl_isOptionalRef _ _ _ _ _).mono ?_; rintro e w1 ⟨rfl, hb1⟩; obtain ⟨B1, hz1, hc1, hd1⟩ := nextW2 (by assumption) (by assumption) hb1) | (go_at_call 57; refine (impl_inRange _ _ _ _).mono ?_; rintro e w' ⟨rfl, rfl⟩))
      go_ret
      exact ⟨ret_bool (by first | rfl | (simp; done)), by assumption⟩
    · go_enter Try.func89, Try.ntmps89
      go_wp2_with (first | (go_at_call 91; refine (impl_isOptionalRef _ _ _ _ _).mono ?_; rintro e w1 ⟨rfl, hb1⟩; obtain ⟨B1, hz1, hc1, hd1⟩ := nextW2 (by assumption) (by assumption) hb1) | (go_at_call 57; refine (impl_inRange _ _ _ _).mono ?_; rintro e w' ⟨rfl, rfl⟩))
      go_ret
      exact ⟨ret_bool (by first | rfl | (simp; done)), by assumption⟩

set_option maxHeartbeats 1000000 in
theorem valid2 (i j : Int) (ts : Int) (ta : Int) (w : World) :
    Calls Try.prog 94 #[.agg #[.int .i64 ts, .int .i64 ta], .agg #[.int .i64 i, .int .i64 j]] w fun e w' => e = .returned (.bool (vref i j ts ta false)) ∧ Below w.heap.size w w' := by
  have B0 : Below w.heap.size w ((w.alloc (.cells #[.int .i64 ts, .int .i64 ta] 106)).alloc (.cells #[.int .i64 i, .int .i64 j] 26)) := ((Below.refl _ _).alloc (Nat.le_refl _) _).alloc (by simp) _
  have hz0 : w.heap.size + 1 < ((w.alloc (.cells #[.int .i64 ts, .int .i64 ta] 106)).alloc (.cells #[.int .i64 i, .int .i64 j] 26)).heap.size := by simp
  go_enter Try.func94, Try.ntmps94
  go_wp2_with (go_at_call 85; refine (isRef _ _ _ _ _).mono ?_; rintro e w1 ⟨rfl, hb1⟩; obtain ⟨B1, hz1, hc1, hd1⟩ := nextW2 (by assumption) (by assumption) hb1)
  go_ret
  exact ⟨ret_bool (by first | rfl | (simp; done)), by assumption⟩

set_option maxHeartbeats 1000000 in
theorem valid3 (i j : Int) (ts : Int) (ta : Int) (fs : Int) (fa : Int) (v : Int) (en : Bool) (w : World) :
    Calls Try.prog 98 #[.agg #[.int .i64 ts, .int .i64 ta, .int .i64 fs, .int .i64 fa, .int .i64 v, .bool en], .agg #[.int .i64 i, .int .i64 j]] w fun e w' => e = .returned (.bool (vref i j ts ta false && (vref i j fs fa false && (inR v 1 3)))) ∧ Below w.heap.size w w' := by
  have B0 : Below w.heap.size w ((w.alloc (.cells #[.int .i64 ts, .int .i64 ta, .int .i64 fs, .int .i64 fa, .int .i64 v, .bool en] 108)).alloc (.cells #[.int .i64 i, .int .i64 j] 26)) := ((Below.refl _ _).alloc (Nat.le_refl _) _).alloc (by simp) _
  have hz0 : w.heap.size + 1 < ((w.alloc (.cells #[.int .i64 ts, .int .i64 ta, .int .i64 fs, .int .i64 fa, .int .i64 v, .bool en] 108)).alloc (.cells #[.int .i64 i, .int .i64 j] 26)).heap.size := by simp
  cases h1 : vref i j ts ta false
  · go_enter Try.func98, Try.ntmps98
    go_wp2_with (first | (go_at_call 85; refine (isRef _ _ _ _ _).mono ?_; rintro e w1 ⟨rfl, hb1⟩; obtain ⟨B1, hz1, hc1, hd1⟩ := nextW2 (by assumption) (by assumption) hb1) | (go_at_call 57; refine (impl_inRange _ _ _ _).mono ?_; rintro e w' ⟨rfl, rfl⟩))
    go_ret
    exact ⟨ret_bool (by first | rfl | (simp; done)), by assumption⟩
  · cases h2 : vref i j fs fa false
    · go_enter Try.func98, Try.ntmps98
      go_wp2_with (first | (go_at_call 85; refine (isRef _ _ _ _ _).mono ?_; rintro e w1 ⟨rfl, hb1⟩; obtain ⟨B1, hz1, hc1, hd1⟩ := nextW2 (by assumption) (by assumption) hb1) | (go_at_call 57; refine (impl_inRange _ _ _ _).mono ?_; rintro e w' ⟨rfl, rfl⟩))
      go_ret
      exact ⟨ret_bool (by first | rfl | (simp; done)), by assumption⟩
    · go_enter Try.func98, Try.ntmps98
      go_wp2_with (first | (go_at_call 85; refine (isRef _ _ _ _ _).mono ?_; rintro e w1 ⟨rfl, hb1⟩; obtain ⟨B1, hz1, hc1, hd1⟩ := nextW2 (by assumption) (by assumption) hb1) | (go_at_call 57; refine (impl_inRange _ _ _ _).mono ?_; rintro e w' ⟨rfl, rfl⟩))
      go_ret
      exact ⟨ret_bool (by first | rfl | (simp; done)), by assumption⟩

set_option maxHeartbeats 1000000 in
theorem valid4 (i j : Int) (ts : Int) (ta : Int) (fs : Int) (fa : Int) (v : Int) (w : World) :
    Calls Try.prog 102 #[.agg #[.int .i64 ts, .int .i64 ta, .int .i64 fs, .int .i64 fa, .int .i64 v], .agg #[.int .i64 i, .int .i64 j]] w fun e w' => e = .returned (.bool (vref i j ts ta true && (vref i j fs fa true && (inR v 1 4)))) ∧ Below w.heap.size w w' := by
  have B0 : Below w.heap.size w ((w.alloc (.cells #[.int .i64 ts, .int .i64 ta, .int .i64 fs, .int .i64 fa, .int .i64 v] 110)).alloc (.cells #[.int .i64 i, .int .i64 j] 26)) := ((Below.refl _ _).alloc (Nat.le_refl _) _).alloc (by simp) _
  have hz0 : w.heap.size + 1 < ((w.alloc (.cells #[.int .i64 ts, .int .i64 ta, .int .i64 fs, .int .i64 fa, .int .i64 v] 110)).alloc (.cells #[.int .i64 i, .int .i64 j] 26)).heap.size := by simp
  cases h1 : vref i j ts ta true
  · go_enter Try.func102, Try.ntmps102
    go_wp2_with (first | (go_at_call 91; refine (impl_isOptionalRef _ _ _ _ _).mono ?_; rintro e w1 ⟨rfl, hb1⟩; obtain ⟨B1, hz1, hc1, hd1⟩ := nextW2 (by assumption) (by assumption) hb1) | (go_at_call 104; refine (impl_isBlockKind _ _).mono ?_; rintro e w' ⟨rfl, rfl⟩))
    go_ret
    exact ⟨ret_bool (by first | rfl | (simp; done)), by assumption⟩
  · cases h2 : vref i j fs fa true
    · go_enter Try.func102, Try.ntmps102
      go_wp2_with (first | (go_at_call 91; refine (impl_isOptionalRef _ _ _ _ _).mono ?_; rintro e w1 ⟨rfl, hb1⟩; obtain ⟨B1, hz1, hc1, hd1⟩ := nextW2 (by assumption) (by assumption) hb1) | (go_at_call 104; refine (impl_isBlockKind _ _).mono ?_; rintro e w' ⟨rfl, rfl⟩))
      go_ret
      exact ⟨ret_bool (by first | rfl | (simp; done)), by assumption⟩
    · go_enter Try.func102, Try.ntmps102
      go_wp2_with (first | (go_at_call 91; refine (impl_isOptionalRef _ _ _ _ _).mono ?_; rintro e w1 ⟨rfl, hb1⟩; obtain ⟨B1, hz1, hc1, hd1⟩ := nextW2 (by assumption) (by assumption) hb1) | (go_at_call 104; refine (impl_isBlockKind _ _).mono ?_; rintro e w' ⟨rfl, rfl⟩))
      go_ret
      exact ⟨ret_bool (by first | rfl | (simp; done)), by assumption⟩

set_option maxHeartbeats 1000000 in
theorem valid5 (i j : Int) (ts : Int) (ta : Int) (fs : Int) (fa : Int) (ns : Int) (na : Int) (w : World) :
    Calls Try.prog 107 #[.agg #[.int .i64 ts, .int .i64 ta, .int .i64 fs, .int .i64 fa, .int .i64 ns, .int .i64 na], .agg #[.int .i64 i, .int .i64 j]] w fun e w' => e = .returned (.bool (vref i j ts ta false && (vref i j fs fa true && (vref i j ns na true)))) ∧ Below w.heap.size w w' := by
  have B0 : Below w.heap.size w ((w.alloc (.cells #[.int .i64 ts, .int .i64 ta, .int .i64 fs, .int .i64 fa, .int .i64 ns, .int .i64 na] 112)).alloc (.cells #[.int .i64 i, .int .i64 j] 26)) := ((Below.refl _ _).alloc (Nat.le_refl _) _).alloc (by simp) _
  have hz0 : w.heap.size + 1 < ((w.alloc (.cells #[.int .i64 ts, .int .i64 ta, .int .i64 fs, .int .i64 fa, .int .i64 ns, .int .i64 na] 112)).alloc (.cells #[.int .i64 i, .int .i64 j] 26)).heap.size := by simp
  cases h1 : vref i j ts ta false
  · go_enter Try.func107, Try.ntmps107
    go_wp2_with (first | (go_at_call 85; refine (isRef _ _ _ _ _).mono ?_; rintro e w1 ⟨rfl, hb1⟩; obtain ⟨B1, hz1, hc1, hd1⟩ := nextW2 (by assumption) (by assumption) hb1) | (go_at_call 91; refine (impl_isOptionalRef _ _ _ _ _).mono ?_; rintro e w1 ⟨rfl, hb1⟩; obtain ⟨B1, hz1, hc1, hd1⟩ := nextW2 (by assumption) (by assumption) hb1))
    go_ret
    exact ⟨ret_bool (by first | rfl | (simp; done)), by assumption⟩
  · cases h2 : vref i j fs fa true
    · go_enter Try.func107, Try.ntmps107
      go_wp2_with (first | (go_at_call 85; refine (isRef _ _ _ _ _).mono ?_; rintro e w1 ⟨rfl, hb1⟩; obtain ⟨B1, hz1, hc1, hd1⟩ := nextW2 (by assumption) (by assumption) hb1) | (go_at_call 91; refine (impl_isOptionalRef _ _ _ _ _).mono ?_; rintro e w1 ⟨rfl, hb1⟩; obtain ⟨B1, hz1, hc1, hd1⟩ := nextW2 (by assumption) (by assumption) hb1))
      go_ret
      exact ⟨ret_bool (by first | rfl | (simp; done)), by assumption⟩
    · go_enter Try.func107, Try.ntmps107
      go_wp2_with (first | (go_at_call 85; refine (isRef _ _ _ _ _).mono ?_; rintro e w1 ⟨rfl, hb1⟩; obtain ⟨B1, hz1, hc1, hd1⟩ := nextW2 (by assumption) (by assumption) hb1) | (go_at_call 91; refine (impl_isOptionalRef _ _ _ _ _).mono ?_; rintro e w1 ⟨rfl, hb1⟩; obtain ⟨B1, hz1, hc1, hd1⟩ := nextW2 (by assumption) (by assumption) hb1))
      go_ret
      exact ⟨ret_bool (by first | rfl | (simp; done)), by assumption⟩

set_option maxHeartbeats 1000000 in
theorem valid6 (i j : Int) (ts : Int) (ta : Int) (v : Int) (w : World) :
    Calls Try.prog 111 #[.agg #[.int .i64 ts, .int .i64 ta, .int .i64 v], .agg #[.int .i64 i, .int .i64 j]] w fun e w' => e = .returned (.bool (vref i j ts ta false && (inR v 1 4))) ∧ Below w.heap.size w w' := by
  have B0 : Below w.heap.size w ((w.alloc (.cells #[.int .i64 ts, .int .i64 ta, .int .i64 v] 114)).alloc (.cells #[.int .i64 i, .int .i64 j] 26)) := ((Below.refl _ _).alloc (Nat.le_refl _) _).alloc (by simp) _
  have hz0 : w.heap.size + 1 < ((w.alloc (.cells #[.int .i64 ts, .int .i64 ta, .int .i64 v] 114)).alloc (.cells #[.int .i64 i, .int .i64 j] 26)).heap.size := by simp
  cases h1 : vref i j ts ta false
  · go_enter Try.func111, Try.ntmps111
    go_wp2_with (first | (go_at_call 85; refine (isRef _ _ _ _ _).mono ?_; rintro e w1 ⟨rfl, hb1⟩; obtain ⟨B1, hz1, hc1, hd1⟩ := nextW2 (by assumption) (by assumption) hb1) | (go_at_call 104; refine (impl_isBlockKind _ _).mono ?_; rintro e w' ⟨rfl, rfl⟩))
    go_ret
    exact ⟨ret_bool (by first | rfl | (simp; done)), by assumption⟩
  · go_enter Try.func111, Try.ntmps111
    go_wp2_with (first | (go_at_call 85; refine (isRef _ _ _ _ _).mono ?_; rintro e w1 ⟨rfl, hb1⟩; obtain ⟨B1, hz1, hc1, hd1⟩ := nextW2 (by assumption) (by assumption) hb1) | (go_at_call 104; refine (impl_isBlockKind _ _).mono ?_; rintro e w' ⟨rfl, rfl⟩))
    go_ret
    exact ⟨ret_bool (by first | rfl | (simp; done)), by assumption⟩

set_option maxHeartbeats 1000000 in
theorem valid7 (i j : Int) (ts : Int) (ta : Int) (w : World) :
    Calls Try.prog 115 #[.agg #[.int .i64 ts, .int .i64 ta], .agg #[.int .i64 i, .int .i64 j]] w fun e w' => e = .returned (.bool (vref i j ts ta false)) ∧ Below w.heap.size w w' := by
  have B0 : Below w.heap.size w ((w.alloc (.cells #[.int .i64 ts, .int .i64 ta] 116)).alloc (.cells #[.int .i64 i, .int .i64 j] 26)) := ((Below.refl _ _).alloc (Nat.le_refl _) _).alloc (by simp) _
  have hz0 : w.heap.size + 1 < ((w.alloc (.cells #[.int .i64 ts, .int .i64 ta] 116)).alloc (.cells #[.int .i64 i, .int .i64 j] 26)).heap.size := by simp
  go_enter Try.func115, Try.ntmps115
  go_wp2_with (go_at_call 85; refine (isRef _ _ _ _ _).mono ?_; rintro e w1 ⟨rfl, hb1⟩; obtain ⟨B1, hz1, hc1, hd1⟩ := nextW2 (by assumption) (by assumption) hb1)
  go_ret
  exact ⟨ret_bool (by first | rfl | (simp; done)), by assumption⟩

set_option maxHeartbeats 1000000 in
theorem valid8 (i j : Int) (ts : Int) (ta : Int) (fs : Int) (fa : Int) (tx : ByteArray) (w : World) (hs : tx.size ≤ maxLen) :
    Calls Try.prog 119 #[.agg #[.int .i64 ts, .int .i64 ta, .int .i64 fs, .int .i64 fa, .string tx], .agg #[.int .i64 i, .int .i64 j]] w fun e w' => e = .returned (.bool (vref i j ts ta false && (vref i j fs fa false && (wordB tx.data.toList)))) ∧ Below w.heap.size w w' := by
  have B0 : Below w.heap.size w ((w.alloc (.cells #[.int .i64 ts, .int .i64 ta, .int .i64 fs, .int .i64 fa, .string tx] 118)).alloc (.cells #[.int .i64 i, .int .i64 j] 26)) := ((Below.refl _ _).alloc (Nat.le_refl _) _).alloc (by simp) _
  have hz0 : w.heap.size + 1 < ((w.alloc (.cells #[.int .i64 ts, .int .i64 ta, .int .i64 fs, .int .i64 fa, .string tx] 118)).alloc (.cells #[.int .i64 i, .int .i64 j] 26)).heap.size := by simp
  cases h1 : vref i j ts ta false
  · go_enter Try.func119, Try.ntmps119
    go_wp2_with (first | (go_at_call 85; refine (isRef _ _ _ _ _).mono ?_; rintro e w1 ⟨rfl, hb1⟩; obtain ⟨B1, hz1, hc1, hd1⟩ := nextW2 (by assumption) (by assumption) hb1) | (go_at_call 121; refine (impl_isWord _ _ hs).mono ?_; rintro e w' ⟨rfl, rfl⟩))
    go_ret
    exact ⟨ret_bool (by first | rfl | (simp; done)), by assumption⟩
  · cases h2 : vref i j fs fa false
    · go_enter Try.func119, Try.ntmps119
      go_wp2_with (first | (go_at_call 85; refine (isRef _ _ _ _ _).mono ?_; rintro e w1 ⟨rfl, hb1⟩; obtain ⟨B1, hz1, hc1, hd1⟩ := nextW2 (by assumption) (by assumption) hb1) | (go_at_call 121; refine (impl_isWord _ _ hs).mono ?_; rintro e w' ⟨rfl, rfl⟩))
      go_ret
      exact ⟨ret_bool (by first | rfl | (simp; done)), by assumption⟩
    · go_enter Try.func119, Try.ntmps119
      go_wp2_with (first | (go_at_call 85; refine (isRef _ _ _ _ _).mono ?_; rintro e w1 ⟨rfl, hb1⟩; obtain ⟨B1, hz1, hc1, hd1⟩ := nextW2 (by assumption) (by assumption) hb1) | (go_at_call 121; refine (impl_isWord _ _ hs).mono ?_; rintro e w' ⟨rfl, rfl⟩))
      go_ret
      exact ⟨ret_bool (by first | rfl | (simp; done)), by assumption⟩

set_option maxHeartbeats 1000000 in
theorem valid9 (i j : Int) (ts : Int) (ta : Int) (tx : ByteArray) (w : World) (hs : tx.size ≤ maxLen) :
    Calls Try.prog 124 #[.agg #[.int .i64 ts, .int .i64 ta, .string tx], .agg #[.int .i64 i, .int .i64 j]] w fun e w' => e = .returned (.bool (vref i j ts ta false && (wordB tx.data.toList))) ∧ Below w.heap.size w w' := by
  have B0 : Below w.heap.size w ((w.alloc (.cells #[.int .i64 ts, .int .i64 ta, .string tx] 120)).alloc (.cells #[.int .i64 i, .int .i64 j] 26)) := ((Below.refl _ _).alloc (Nat.le_refl _) _).alloc (by simp) _
  have hz0 : w.heap.size + 1 < ((w.alloc (.cells #[.int .i64 ts, .int .i64 ta, .string tx] 120)).alloc (.cells #[.int .i64 i, .int .i64 j] 26)).heap.size := by simp
  cases h1 : vref i j ts ta false
  · go_enter Try.func124, Try.ntmps124
    go_wp2_with (first | (go_at_call 85; refine (isRef _ _ _ _ _).mono ?_; rintro e w1 ⟨rfl, hb1⟩; obtain ⟨B1, hz1, hc1, hd1⟩ := nextW2 (by assumption) (by assumption) hb1) | (go_at_call 121; refine (impl_isWord _ _ hs).mono ?_; rintro e w' ⟨rfl, rfl⟩))
    go_ret
    exact ⟨ret_bool (by first | rfl | (simp; done)), by assumption⟩
  · go_enter Try.func124, Try.ntmps124
    go_wp2_with (first | (go_at_call 85; refine (isRef _ _ _ _ _).mono ?_; rintro e w1 ⟨rfl, hb1⟩; obtain ⟨B1, hz1, hc1, hd1⟩ := nextW2 (by assumption) (by assumption) hb1) | (go_at_call 121; refine (impl_isWord _ _ hs).mono ?_; rintro e w' ⟨rfl, rfl⟩))
    go_ret
    exact ⟨ret_bool (by first | rfl | (simp; done)), by assumption⟩

set_option maxHeartbeats 1000000 in
theorem valid10 (i j : Int) (ts : Int) (ta : Int) (en : Bool) (w : World) :
    Calls Try.prog 84 #[.agg #[.int .i64 ts, .int .i64 ta, .bool en], .agg #[.int .i64 i, .int .i64 j]] w fun e w' => e = .returned (.bool (vref i j ts ta false)) ∧ Below w.heap.size w w' := by
  have B0 : Below w.heap.size w ((w.alloc (.cells #[.int .i64 ts, .int .i64 ta, .bool en] 61)).alloc (.cells #[.int .i64 i, .int .i64 j] 26)) := ((Below.refl _ _).alloc (Nat.le_refl _) _).alloc (by simp) _
  have hz0 : w.heap.size + 1 < ((w.alloc (.cells #[.int .i64 ts, .int .i64 ta, .bool en] 61)).alloc (.cells #[.int .i64 i, .int .i64 j] 26)).heap.size := by simp
  go_enter Try.func84, Try.ntmps84
  go_wp2_with (go_at_call 85; refine (isRef _ _ _ _ _).mono ?_; rintro e w1 ⟨rfl, hb1⟩; obtain ⟨B1, hz1, hc1, hd1⟩ := nextW2 (by assumption) (by assumption) hb1)
  go_ret
  exact ⟨ret_bool (by first | rfl | (simp; done)), by assumption⟩

end Go.Proofs.Ytdiifcgalehhbaa.OpE
