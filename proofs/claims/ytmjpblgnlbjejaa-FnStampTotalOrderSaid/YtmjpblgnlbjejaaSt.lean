/-
  Contracts of the small functions on stamps: inRange, validStamp, ValidStamp, isAuthor of both packages, and the law's own toStamp. For every argument; no condition.
-/
import Derived.Test.YtmjpblgnlbjejaaBase
namespace Go.Proofs.Ytmjpblgnlbjejaa.St
open Go.RowKit Go.Proofs.Ytmjpblgnlbjejaa.Base

theorem spec_inRange (n lo hi : Int) (w : World) :
    Calls Try.prog 56 #[.int .i64 n, .int .i64 lo, .int .i64 hi] w fun e w' => e = .returned (.bool (inR n lo hi)) ∧ w = w' := by
  by_cases h1 : lo ≤ n
  · go_enter Try.func56, Try.ntmps56
    go_wp2
    go_ret
    exact ⟨ret_bool (by simp [inR]; omega), rfl⟩
  · go_enter Try.func56, Try.ntmps56
    go_wp2
    go_ret
    exact ⟨ret_bool (by simp [inR]; omega), rfl⟩

theorem impl_inRange (n lo hi : Int) (w : World) :
    Calls Try.prog 41 #[.int .i64 n, .int .i64 lo, .int .i64 hi] w fun e w' => e = .returned (.bool (inR n lo hi)) ∧ w = w' := by
  by_cases h1 : lo ≤ n
  · go_enter Try.func41, Try.ntmps41
    go_wp2
    go_ret
    exact ⟨ret_bool (by simp [inR]; omega), rfl⟩
  · go_enter Try.func41, Try.ntmps41
    go_wp2
    go_ret
    exact ⟨ret_bool (by simp [inR]; omega), rfl⟩

theorem impl_isAuthor (n : Int) (w : World) :
    Calls Try.prog 42 #[.int .i64 n] w fun e w' => e = .returned (.bool (inR n 0 2)) ∧ w = w' := by
  go_enter Try.func42, Try.ntmps42
  go_wp2_with (go_at_call 41; refine (impl_inRange _ _ _ _).mono ?_; rintro e w' ⟨rfl, rfl⟩)
  go_ret
  exact ⟨rfl, rfl⟩

theorem spec_validStamp (s a : Int) (w : World) :
    Calls Try.prog 40 #[.agg #[.int .i64 s, .int .i64 a]] w fun e w' => e = .returned (.bool (vst s a)) ∧ Below w.heap.size w w' := by
  cases h : inR s 1 99
  all_goals
    go_enter Try.func40, Try.ntmps40
    go_wp2_with (go_at_call 56; refine (spec_inRange _ _ _ _).mono ?_; rintro e w' ⟨rfl, rfl⟩)
    go_ret
    exact ⟨ret_bool (by simp [vst, h]), (Below.refl _ _).alloc (Nat.le_refl _) _⟩

theorem impl_ValidStamp (s a : Int) (w : World) :
    Calls Try.prog 15 #[.agg #[.int .i64 s, .int .i64 a]] w fun e w' => e = .returned (.bool (vst s a)) ∧ Below w.heap.size w w' := by
  cases h : inR s 1 99
  all_goals
    go_enter Try.func15, Try.ntmps15
    go_wp2_with (first
      | (go_at_call 41; refine (impl_inRange _ _ _ _).mono ?_; rintro e w' ⟨rfl, rfl⟩)
      | (go_at_call 42; refine (impl_isAuthor _ _).mono ?_; rintro e w' ⟨rfl, rfl⟩))
    go_ret
    exact ⟨ret_bool (by simp [vst, h]), (Below.refl _ _).alloc (Nat.le_refl _) _⟩

theorem toStamp (s a : Int) (w : World) :
    Calls Try.prog 14 #[.agg #[.int .i64 s, .int .i64 a]] w fun e w' => e = .returned (.agg #[.int .i64 s, .int .i64 a]) ∧ Below w.heap.size w w' := by
  go_enter Try.func14, Try.ntmps14
  go_wp2
  refine bodyPost_ret (v := .agg #[.int .i64 s, .int .i64 a]) (by simp [results, Try.results14, go_sem]) rfl ⟨rfl, ?_⟩
  exact (((Below.refl _ _).alloc (Nat.le_refl _) _).alloc (by simp) _).alloc (by simp; omega) _

end Go.Proofs.Ytmjpblgnlbjejaa.St
