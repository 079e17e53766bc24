/-
  The last operation in effect of an author that is no undo: the value that UndoTarget answers, and what the law asks of it. Lists only; no condition.
-/
import Derived.Test.YtlogpbejfifgdaaLiB
namespace Go.Proofs.Ytlogpbejfifgdaa.UtA
open Go.Proofs.Ytlogpbejfifgdaa.Base Go.Proofs.Ytlogpbejfifgdaa.StB Go.Proofs.Ytlogpbejfifgdaa.OpA Go.Proofs.Ytlogpbejfifgdaa.OpB Go.Proofs.Ytlogpbejfifgdaa.LgA Go.Proofs.Ytlogpbejfifgdaa.LgF Go.Proofs.Ytlogpbejfifgdaa.LiA Go.Proofs.Ytlogpbejfifgdaa.LiB
set_option linter.unusedVariables false

/-- Operation i is in effect, is no undo, and is of author who. -/
def hitU (os : List OpV) (who : Int) (i : Nat) : Bool := liv os i (os.length - (i + 1)) && (!decide ((os.getD i zop).k = 10) && decide ((os.getD i zop).j = who))
/-- The stamp of the last such operation among the first n; zero where there is none. -/
def utv (os : List OpV) (who : Int) : Nat → Int × Int
  | 0 => (0, 0)
  | n + 1 => if hitU os who n then ((os.getD n zop).i, (os.getD n zop).j) else utv os who n
def ut (os : List OpV) (who : Int) : Int × Int := if vlog os then utv os who os.length else (0, 0)
theorem utv_yes {os : List OpV} {who : Int} {n : Nat} (h : hitU os who n = true) : utv os who (n + 1) = ((os.getD n zop).i, (os.getD n zop).j) := by rw [utv, if_pos h]
theorem utv_no {os : List OpV} {who : Int} {n : Nat} (h : hitU os who n = false) : utv os who (n + 1) = utv os who n := by rw [utv, if_neg (by rw [h]; exact Bool.false_ne_true)]

theorem utv_cases (os : List OpV) (who : Int) : ∀ n, (utv os who n = (0, 0) ∧ ∀ i, i < n → hitU os who i = false) ∨ ∃ m, m < n ∧ hitU os who m = true ∧ utv os who n = ((os.getD m zop).i, (os.getD m zop).j) ∧ ∀ i, m < i → i < n → hitU os who i = false
  | 0 => .inl ⟨rfl, fun i hi => absurd hi (by omega)⟩
  | n + 1 => by
    cases e : hitU os who n
    · rw [utv_no e]
      rcases utv_cases os who n with ⟨h1, h2⟩ | ⟨m, h1, h2, h3, h4⟩
      · refine .inl ⟨h1, fun i hi => ?_⟩
        rcases Nat.lt_or_ge i n with h | h
        · exact h2 i h
        · obtain rfl : i = n := by omega
          exact e
      · refine .inr ⟨m, by omega, h2, h3, fun i hi hi2 => ?_⟩
        rcases Nat.lt_or_ge i n with h | h
        · exact h4 i hi h
        · obtain rfl : i = n := by omega
          exact e
    · rw [utv_yes e]
      exact .inr ⟨n, by omega, e, rfl, fun i hi hi2 => absurd hi2 (by omega)⟩

theorem asc_of {os : List OpV} (h : vlog os = true) {i k : Nat} (hik : i < k) (hk : k < os.length) : slt (os.getD i zop).i (os.getD i zop).j (os.getD k zop).i (os.getD k zop).j = true := by
  have := asc_lt h i (k - i - 1) (by omega)
  rwa [show i + (k - i - 1) + 1 = k by omega] at this
theorem pos_of {os : List OpV} (h : vlog os = true) {i : Nat} (hi : i < os.length) : 1 ≤ (os.getD i zop).i := by
  have := vop_of h hi
  unfold vop at this
  rw [Bool.and_eq_true] at this
  have h1 := this.1
  generalize os.getD i zop = q at h1
  simp [vst, inR] at h1
  omega

/-- What the law asks at operation i. -/
theorem ut_law {os : List OpV} {who : Int} (hv : vlog os = true) {s a : Int} (hs : ut os who = (s, a)) {i : Nat} (hi : i < os.length) :
    ((os.getD i zop).i = s → (os.getD i zop).j = a → hitU os who i = true) ∧ (hitU os who i = true → s ≠ 0 ∧ slt s a (os.getD i zop).i (os.getD i zop).j = false) := by
  rw [ut, if_pos hv] at hs
  rcases utv_cases os who os.length with ⟨h1, h2⟩ | ⟨m, h1, h2, h3, h4⟩
  · rw [h1] at hs
    cases hs
    refine ⟨fun e _ => ?_, fun e => ?_⟩
    · have := pos_of hv hi
      omega
    · rw [h2 i hi] at e
      cases e
  · rw [h3] at hs
    cases hs
    have hp := pos_of hv h1
    refine ⟨fun e1 e2 => ?_, fun e => ⟨by omega, ?_⟩⟩
    · rcases (show i < m ∨ i = m ∨ m < i by omega) with h | h | h
      · have := asc_of hv h h1
        rw [e1, e2, lt_irr] at this
        cases this
      · rw [h]; exact h2
      · have := asc_of hv h hi
        rw [e1, e2, lt_irr] at this
        cases this
    · rcases (show i < m ∨ i = m ∨ m < i by omega) with h | h | h
      · have h5 := asc_of hv h h1
        cases h6 : slt (os.getD m zop).i (os.getD m zop).j (os.getD i zop).i (os.getD i zop).j
        · rfl
        · have := lt_trans h5 h6
          rw [lt_irr] at this
          cases this
      · rw [h, lt_irr]
      · rw [h4 i h hi] at e
        cases e
/-- It is zero, or the stamp of an operation of the log. -/
theorem ut_in {os : List OpV} {who : Int} (hv : vlog os = true) {s a : Int} (hs : ut os who = (s, a)) : (s = 0 ∧ a = 0) ∨ (s ≠ 0 ∧ ∃ m, m < os.length ∧ (os.getD m zop).i = s ∧ (os.getD m zop).j = a) := by
  rw [ut, if_pos hv] at hs
  rcases utv_cases os who os.length with ⟨h1, h2⟩ | ⟨m, h1, h2, h3, h4⟩
  · rw [h1] at hs
    cases hs
    exact .inl ⟨rfl, rfl⟩
  · rw [h3] at hs
    cases hs
    have hp := pos_of hv h1
    exact .inr ⟨by omega, m, h1, rfl, rfl⟩

end Go.Proofs.Ytlogpbejfifgdaa.UtA
