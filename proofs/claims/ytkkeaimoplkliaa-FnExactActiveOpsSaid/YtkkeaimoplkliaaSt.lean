/-
  Contracts of the small functions on stamps: inRange, validStamp, ValidStamp, isAuthor of both packages, and the law's own toStamp. For every argument; no condition.
-/
import Derived.Test.YtkkeaimoplkliaaBase
namespace Go.Proofs.Ytkkeaimoplkliaa.St
open Go.RowKit Go.Proofs.Ytkkeaimoplkliaa.Base

theorem spec_inRange (n lo hi : Int) (w : World) :
    Calls Try.prog 87 #[.int .i64 n, .int .i64 lo, .int .i64 hi] w fun e w' => e = .returned (.bool (inR n lo hi)) ∧ w = w' := by
  by_cases h1 : lo ≤ n
  · go_enter Try.func87, Try.ntmps87
    go_wp2
    go_ret
    exact ⟨ret_bool (by simp [inR]; omega), rfl⟩
  · go_enter Try.func87, Try.ntmps87
    go_wp2
    go_ret
    exact ⟨ret_bool (by simp [inR]; omega), rfl⟩

theorem impl_inRange (n lo hi : Int) (w : World) :
    Calls Try.prog 89 #[.int .i64 n, .int .i64 lo, .int .i64 hi] w fun e w' => e = .returned (.bool (inR n lo hi)) ∧ w = w' := by
  by_cases h1 : lo ≤ n
  · go_enter Try.func89, Try.ntmps89
    go_wp2
    go_ret
    exact ⟨ret_bool (by simp [inR]; omega), rfl⟩
  · go_enter Try.func89, Try.ntmps89
    go_wp2
    go_ret
    exact ⟨ret_bool (by simp [inR]; omega), rfl⟩

theorem impl_isAuthor (n : Int) (w : World) :
    Calls Try.prog 90 #[.int .i64 n] w fun e w' => e = .returned (.bool (inR n 0 2)) ∧ w = w' := by
  go_enter Try.func90, Try.ntmps90
  go_wp2_with (go_at_call 89; refine (impl_inRange _ _ _ _).mono ?_; rintro e w' ⟨rfl, rfl⟩)
  go_ret
  exact ⟨rfl, rfl⟩

theorem spec_validStamp (s a : Int) (w : World) :
    Calls Try.prog 84 #[.agg #[.int .i64 s, .int .i64 a]] w fun e w' => e = .returned (.bool (vst s a)) ∧ Below w.heap.size w w' := by
  cases h : inR s 1 99
  all_goals
    go_enter Try.func84, Try.ntmps84
    go_wp2_with (go_at_call 87; refine (spec_inRange _ _ _ _).mono ?_; rintro e w' ⟨rfl, rfl⟩)
    go_ret
    exact ⟨ret_bool (by simp [vst, h]), (Below.refl _ _).alloc (Nat.le_refl _) _⟩

theorem impl_ValidStamp (s a : Int) (w : World) :
    Calls Try.prog 56 #[.agg #[.int .i64 s, .int .i64 a]] w fun e w' => e = .returned (.bool (vst s a)) ∧ Below w.heap.size w w' := by
  cases h : inR s 1 99
  all_goals
    go_enter Try.func56, Try.ntmps56
    go_wp2_with (first
      | (go_at_call 89; refine (impl_inRange _ _ _ _).mono ?_; rintro e w' ⟨rfl, rfl⟩)
      | (go_at_call 90; refine (impl_isAuthor _ _).mono ?_; rintro e w' ⟨rfl, rfl⟩))
    go_ret
    exact ⟨ret_bool (by simp [vst, h]), (Below.refl _ _).alloc (Nat.le_refl _) _⟩

theorem toStamp (s a : Int) (w : World) :
    Calls Try.prog 54 #[.agg #[.int .i64 s, .int .i64 a]] w fun e w' => e = .returned (.agg #[.int .i64 s, .int .i64 a]) ∧ Below w.heap.size w w' := by
  go_enter Try.func54, Try.ntmps54
  go_wp2
  refine bodyPost_ret (v := .agg #[.int .i64 s, .int .i64 a]) (by simp [results, Try.results54, go_sem]) rfl ⟨rfl, ?_⟩
  exact (((Below.refl _ _).alloc (Nat.le_refl _) _).alloc (by simp) _).alloc (by simp; omega) _

end Go.Proofs.Ytkkeaimoplkliaa.St
