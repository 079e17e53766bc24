/-
  Contracts of the comparing of stamps in both packages, and the walk of the law FnExactStampLess. For every argument; no condition.
-/
import Derived.Test.YtmjpblgnlbjejaaSt
import Derived.BigQuiet
import Derived.Deep.QuietTactic
import Derived.Deep.RegionHeld3
namespace Go.Proofs.Ytmjpblgnlbjejaa.StB
open Go.RowKit Go.Proofs.Ytmjpblgnlbjejaa.Base Go.Proofs.Ytmjpblgnlbjejaa.St

/-- Stamp (s, a) sorts before (t, b). -/
def slt (s a t b : Int) : Bool := decide (s < t) || (decide (s = t) && decide (a < b))
/-- -1, 0 or 1. -/
def cmpI (x y : Int) : Int := if x < y then -1 else if y < x then 1 else 0
def scmp (s a t b : Int) : Int := if s = t then cmpI a b else cmpI s t
theorem scmp_neg (s a t b : Int) : decide (scmp s a t b < 0) = slt s a t b := by
  unfold scmp slt cmpI
  by_cases h : s = t
  · subst h
    by_cases h1 : a < b
    · simp [h1]
    · by_cases h2 : b < a <;> simp [h1, h2]
  · by_cases h1 : s < t
    · simp [h, h1]
    · by_cases h2 : t < s <;> simp [h, h1, h2]

theorem cmpCompare (x y : Int) (w : World) :
    Calls Try.prog 61 #[.int .i64 x, .int .i64 y] w fun e w' => e = .returned (.int .i64 (cmpI x y)) ∧ w = w' := by
  by_cases h1 : x < y
  · go_enter Try.func61, Try.ntmps61
    go_wp2
    go_ret
    exact ⟨ret_int (by simp [cmpI, h1]), rfl⟩
  · by_cases h2 : y < x
    · go_enter Try.func61, Try.ntmps61
      go_wp2
      go_ret
      exact ⟨ret_int (by simp [cmpI]; omega), rfl⟩
    · go_enter Try.func61, Try.ntmps61
      go_wp2
      go_ret
      exact ⟨ret_int (by simp [cmpI]; omega), rfl⟩

theorem stampCompare (s a t b : Int) (w : World) :
    Calls Try.prog 44 #[.agg #[.int .i64 s, .int .i64 a], .agg #[.int .i64 t, .int .i64 b]] w fun e w' => e = .returned (.int .i64 (scmp s a t b)) ∧ Below w.heap.size w w' := by
  by_cases h : s = t
  · subst h
    go_enter Try.func44, Try.ntmps44
    go_wp2_with (go_at_call 61; refine (cmpCompare _ _ _).mono ?_; rintro e w' ⟨rfl, rfl⟩)
    go_ret
    exact ⟨ret_int (by simp [scmp]), ((Below.refl _ _).alloc (Nat.le_refl _) _).alloc (by simp) _⟩
  · go_enter Try.func44, Try.ntmps44
    go_wp2_with (go_at_call 61; refine (cmpCompare _ _ _).mono ?_; rintro e w' ⟨rfl, rfl⟩)
    go_ret
    exact ⟨ret_int (by simp [scmp, h]), ((Below.refl _ _).alloc (Nat.le_refl _) _).alloc (by simp) _⟩

theorem impl_StampLess (s a t b : Int) (w : World) :
    Calls Try.prog 17 #[.agg #[.int .i64 s, .int .i64 a], .agg #[.int .i64 t, .int .i64 b]] w fun e w' => e = .returned (.bool (slt s a t b)) ∧ Below w.heap.size w w' := by
  go_enter Try.func17, Try.ntmps17
  go_wp2_with (go_at_call 44; refine (stampCompare _ _ _ _ _).mono ?_; rintro e w1 ⟨rfl, hb1⟩)
  go_ret
  exact ⟨ret_bool (scmp_neg s a t b), (((Below.refl _ _).alloc (Nat.le_refl _) _).alloc (by simp) _).trans (hb1.mono (by simp; omega))⟩

theorem spec_stampLess (s a t b : Int) (w : World) :
    Calls Try.prog 43 #[.agg #[.int .i64 s, .int .i64 a], .agg #[.int .i64 t, .int .i64 b]] w fun e w' => e = .returned (.bool (slt s a t b)) ∧ Below w.heap.size w w' := by
  by_cases h : s = t
  · subst h
    go_enter Try.func43, Try.ntmps43
    go_wp2
    go_ret
    exact ⟨ret_bool (by simp [slt]), ((Below.refl _ _).alloc (Nat.le_refl _) _).alloc (by simp) _⟩
  · by_cases h1 : s < t
    · go_enter Try.func43, Try.ntmps43
      go_wp2
      go_ret
      exact ⟨ret_bool (by simp [slt, h1]), ((Below.refl _ _).alloc (Nat.le_refl _) _).alloc (by simp) _⟩
    · go_enter Try.func43, Try.ntmps43
      go_wp2
      go_ret
      exact ⟨ret_bool (by simp [slt, h]; omega), ((Below.refl _ _).alloc (Nat.le_refl _) _).alloc (by simp) _⟩

theorem spec_StampLess (s a t b : Int) (w : World) :
    Calls Try.prog 16 #[.agg #[.int .i64 s, .int .i64 a], .agg #[.int .i64 t, .int .i64 b]] w fun e w' => e = .returned (.bool (slt s a t b)) ∧ Below w.heap.size w w' := by
  go_enter Try.func16, Try.ntmps16
  go_wp2_with (go_at_call 43; refine (spec_stampLess _ _ _ _ _).mono ?_; rintro e w1 ⟨rfl, hb1⟩)
  go_ret
  exact ⟨rfl, (((Below.refl _ _).alloc (Nat.le_refl _) _).alloc (by simp) _).trans (hb1.mono (by simp; omega))⟩

theorem walkStampLess (s a : Int) (_hs : (Lit.int .i64 s).wf = true) (_ha : (Lit.int .i64 a).wf = true) (t b : Int) (_ht : (Lit.int .i64 t).wf = true) (_hb : (Lit.int .i64 b).wf = true) (w : World) :
    Calls Try.prog 4 #[.agg #[.int .i64 s, .int .i64 a], .agg #[.int .i64 t, .int .i64 b]] w fun e w' => e = .returned (.bool true) ∧ Below w.heap.size w w' := by
  go_enter Try.func4, Try.ntmps4
  go_wp2_with fail
  go_region_held3 (fun w' => Below w.heap.size w w' ∧ w.heap.size + 1 < w'.heap.size ∧ w'.cell? ⟨w.heap.size, 0, none⟩ = some (.int .i64 s) ∧ w'.cell? ⟨w.heap.size, 1, none⟩ = some (.int .i64 a) ∧
      w'.cell? ⟨w.heap.size + 1, 0, none⟩ = some (.int .i64 t) ∧ w'.cell? ⟨w.heap.size + 1, 1, none⟩ = some (.int .i64 b)) (first | exact newTwo _ _ _ _ _ _ _ | exact keepTwo (by assumption) hb1 | exact keepTwo (by assumption) hb2)
    (first
      | (go_at_call 14; refine (toStamp _ _ _).mono ?_; rintro e w1 ⟨rfl, hb1⟩)
      | (go_at_call 16; refine (spec_StampLess _ _ _ _ _).mono ?_; rintro e w1 ⟨rfl, hb2⟩))
  go_wp2_with fail
  go_region_held3 (fun w' => Below w.heap.size w w' ∧ w.heap.size + 1 < w'.heap.size ∧ w'.cell? ⟨w.heap.size, 0, none⟩ = some (.int .i64 s) ∧ w'.cell? ⟨w.heap.size, 1, none⟩ = some (.int .i64 a) ∧
      w'.cell? ⟨w.heap.size + 1, 0, none⟩ = some (.int .i64 t) ∧ w'.cell? ⟨w.heap.size + 1, 1, none⟩ = some (.int .i64 b)) (first | exact keepTwo (by assumption) (Below.refl _ _).drew | exact keepTwo (by assumption) hb1 | exact keepTwo (by assumption) hb2)
    (first
      | (go_at_call 14; refine (toStamp _ _ _).mono ?_; rintro e w1 ⟨rfl, hb1⟩)
      | (go_at_call 17; refine (impl_StampLess _ _ _ _ _).mono ?_; rintro e w1 ⟨rfl, hb2⟩))
  go_wp2
  go_ret
  exact ⟨rfl, And.left (by assumption)⟩

end Go.Proofs.Ytmjpblgnlbjejaa.StB
