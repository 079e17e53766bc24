/-
  SchemaAllows of the program and of the model: one plain function; the walks of FnExactSchemaAllows and of FnSchema. For all numbers and all bytes; no condition.
-/
import Derived.Test.YtmhflifaeplalaaRdD
import Derived.Deep.QuietTactic
import Derived.Outline
namespace Go.Proofs.Ytmhflifaeplalaa.ScA
open Go.RowKit Go.Proofs.Ytmhflifaeplalaa.Base Go.Proofs.Ytmhflifaeplalaa.RdA Go.Proofs.Ytmhflifaeplalaa.RdB Go.Proofs.Ytmhflifaeplalaa.RdC Go.Proofs.Ytmhflifaeplalaa.RdD
set_option linter.unusedVariables false

/-- The schema. -/
def allows (p k : Int) : Bool := if p = 0 then k == 1 || (k == 2 || k == 3) else if p = 3 then k == 4 else if p = 4 then k == 1 || k == 3 else false

theorem impl_SchemaAllows (p k : Int) (w : World) : Calls Try.prog 14 #[.int .i64 p, .int .i64 k] w fun e w' => e = .returned (.bool (allows p k)) ∧ w = w' := by
  by_cases p0 : p = 0
  · subst p0
    by_cases k1 : k = 1
    · subst k1; go_enter Try.func14, Try.ntmps14; go_wp2; go_ret; exact ⟨rfl, rfl⟩
    have g1 : (k == 1) = false := by simpa using k1
    by_cases k2 : k = 2
    · subst k2; go_enter Try.func14, Try.ntmps14; go_wp2; go_ret; exact ⟨rfl, rfl⟩
    have g2 : (k == 2) = false := by simpa using k2
    have e : allows 0 k = (k == 3) := by simp [allows, g1, g2]
    rw [e]; clear e k1 k2
    go_enter Try.func14, Try.ntmps14; go_wp2; go_ret; exact ⟨rfl, rfl⟩
  by_cases p3 : p = 3
  · subst p3
    have e : allows 3 k = (k == 4) := by simp [allows]
    rw [e]; clear e
    go_enter Try.func14, Try.ntmps14; go_wp2; go_ret; exact ⟨rfl, rfl⟩
  by_cases p4 : p = 4
  · subst p4
    by_cases k1 : k = 1
    · subst k1; go_enter Try.func14, Try.ntmps14; go_wp2; go_ret; exact ⟨rfl, rfl⟩
    have g1 : (k == 1) = false := by simpa using k1
    have e : allows 4 k = (k == 3) := by simp [allows, g1]
    rw [e]; clear e k1
    go_enter Try.func14, Try.ntmps14; go_wp2; go_ret; exact ⟨rfl, rfl⟩
  have e : allows p k = false := by simp [allows, p0, p3, p4]
  rw [e]; clear e
  go_enter Try.func14, Try.ntmps14; go_wp2; go_ret; exact ⟨rfl, rfl⟩

theorem spec_schemaAllows (p k : Int) (w : World) : Calls Try.prog 44 #[.int .i64 p, .int .i64 k] w fun e w' => e = .returned (.bool (allows p k)) ∧ w = w' := by
  by_cases p0 : p = 0
  · subst p0
    by_cases k1 : k = 1
    · subst k1; go_enter Try.func44, Try.ntmps44; go_wp2; go_ret; exact ⟨rfl, rfl⟩
    have g1 : (k == 1) = false := by simpa using k1
    by_cases k2 : k = 2
    · subst k2; go_enter Try.func44, Try.ntmps44; go_wp2; go_ret; exact ⟨rfl, rfl⟩
    have g2 : (k == 2) = false := by simpa using k2
    have e : allows 0 k = (k == 3) := by simp [allows, g1, g2]
    rw [e]; clear e k1 k2
    go_enter Try.func44, Try.ntmps44; go_wp2; go_ret; exact ⟨rfl, rfl⟩
  by_cases p3 : p = 3
  · subst p3
    have e : allows 3 k = (k == 4) := by simp [allows]
    rw [e]; clear e
    go_enter Try.func44, Try.ntmps44; go_wp2; go_ret; exact ⟨rfl, rfl⟩
  by_cases p4 : p = 4
  · subst p4
    by_cases k1 : k = 1
    · subst k1; go_enter Try.func44, Try.ntmps44; go_wp2; go_ret; exact ⟨rfl, rfl⟩
    have g1 : (k == 1) = false := by simpa using k1
    have e : allows 4 k = (k == 3) := by simp [allows, g1]
    rw [e]; clear e k1
    go_enter Try.func44, Try.ntmps44; go_wp2; go_ret; exact ⟨rfl, rfl⟩
  have e : allows p k = false := by simp [allows, p0, p3, p4]
  rw [e]; clear e
  go_enter Try.func44, Try.ntmps44; go_wp2; go_ret; exact ⟨rfl, rfl⟩

theorem spec_SchemaAllows (p k : Int) (w : World) : Calls Try.prog 13 #[.int .i64 p, .int .i64 k] w fun e w' => e = .returned (.bool (allows p k)) ∧ w = w' := by
  have H := Lib.hid (spec_schemaAllows p k)
  go_enter Try.func13, Try.ntmps13
  go_wp2_with fail
  refine (H.out _).mono ?_
  rintro e w' ⟨rfl, rfl⟩
  go_wp2
  go_ret
  exact ⟨rfl, rfl⟩

theorem walkExact (p : Int) (wp : (Lit.int .i64 p).wf = true) (k : Int) (wk : (Lit.int .i64 k).wf = true) (w : World) :
    Calls Try.prog 3 #[.int .i64 p, .int .i64 k] w fun e w' => e = .returned (.bool true) ∧ Below w.heap.size w w' := by
  clear wp wk
  have HS := Lib.hid (spec_SchemaAllows p k)
  have HI := Lib.hid (impl_SchemaAllows p k)
  generalize allows p k = b at HS HI
  cases b
  all_goals
    go_enter Try.func3, Try.ntmps3
    go_wp2_with fail
    refine (HS.out _).mono ?_
    rintro e w' ⟨rfl, rfl⟩
    go_wp2_with fail
    refine (HI.out _).mono ?_
    rintro e w' ⟨rfl, rfl⟩
    go_wp2
    go_ret
    exact ⟨rfl, Below.refl _ _⟩

/-- Two numbers below 7, less one. -/
def Two (w : World) (e : Ending) (w' : World) : Prop := (∃ p k : Nat, p < 7 ∧ k < 7 ∧ e = .returned (.tuple #[.int .i64 ((p : Int) - 1), .int .i64 ((k : Int) - 1)])) ∧ Below w.heap.size w w'

theorem draw (a : Option Addr) (cap : Nat) (xs : List Int) (w : World) (rx : RdB w a xs) (hx : xs.length ≤ cap) :
    Calls Try.prog 15 #[.slice a xs.length cap] w (Two w) := by
  have HN := Lib.hid (newReader a cap xs w rx hx)
  clear rx
  go_enter Try.func15, Try.ntmps15
  go_wp2_with fail
  refine HN.out.mono ?_
  rintro e w1 ⟨rfl, ⟨a1, c1, zs, hs⟩, b1, hz⟩
  go_wp2_with fail
  refine (pickS _ _ _ _ _ 7 _ _ hs (by omega) (by omega) (by omega)).mono ?_
  rintro e w2 ⟨⟨p, hp, rfl⟩, hs2, hw2⟩
  have B2 : Below w.heap.size w w2 := b1.trans (hw2.below (by omega) (Nat.le_refl _))
  have HS2 := Lib.hid hs2
  clear hs hs2 b1
  go_wp2_with fail
  refine (pickS _ _ _ _ _ 7 _ _ HS2.out (by omega) (by omega) (by omega)).mono ?_
  rintro e w3 ⟨⟨k, hk, rfl⟩, hs3, hw3⟩
  have B3 : Below w.heap.size w w3 := B2.trans (hw3.below (by have := hw2.size; omega) (Nat.le_refl _))
  clear hs3
  go_wp2
  go_ret2
  exact ⟨⟨p, k, hp, hk, rfl⟩, B3⟩

/-- What the law says of the schema, at all that is drawn. -/
theorem law (p k : Int) : (k = 4 → allows p k = (p == 3)) ∧ (p = 1 → allows p k = false) ∧ (p = 2 → allows p k = false) := by
  refine ⟨?_, ?_, ?_⟩
  · rintro rfl
    unfold allows
    by_cases h0 : p = 0
    · subst h0; decide
    · by_cases h3 : p = 3
      · subst h3; decide
      · by_cases h4 : p = 4
        · subst h4; decide
        · simp [h0, h3, h4]
  · rintro rfl; simp [allows]
  · rintro rfl; simp [allows]

set_option maxHeartbeats 1000000 in
theorem walkFnSchema (a0 : Option Addr) (len0 cap0 : Nat) (z0 : List Int) (w : World) (r0 : IsRow .u8 w a0 len0 cap0 z0) :
    Calls Try.prog 4 #[.slice a0 len0 cap0] w fun e w' => e = .returned (.bool true) ∧ Below w.heap.size w w' := by
  obtain ⟨xs, rfl, hx, rx⟩ := bytes_rd r0
  clear r0
  by_cases l0 : (1048576 : Int) < (xs.length : Int)
  · clear rx
    go_enter Try.func4, Try.ntmps4
    go_wp2
    go_ret
    exact ⟨rfl, Below.refl _ _⟩
  have HD := Lib.hid (draw a0 cap0 xs w rx hx)
  clear rx hx
  go_enter Try.func4, Try.ntmps4
  go_wp2_with fail
  refine HD.out.mono ?_
  rintro e w1 ⟨⟨p', k', hp', hk', rfl⟩, b1⟩
  obtain ⟨p, hp⟩ : ∃ p : Int, p = (p' : Int) - 1 := ⟨_, rfl⟩
  obtain ⟨k, hk⟩ : ∃ k : Int, k = (k' : Int) - 1 := ⟨_, rfl⟩
  rw [← hp, ← hk]
  clear hp hk hp' hk' p' k' HD l0
  have hl := law p k
  have HS := Lib.hid (spec_SchemaAllows p k)
  have HI := Lib.hid (impl_SchemaAllows p k)
  generalize allows p k = b at HS HI hl
  obtain ⟨hl1, hl2, hl3⟩ := hl
  go_wp2_with fail
  refine (HI.out _).mono ?_
  rintro e w' ⟨rfl, rfl⟩
  obtain ⟨d4, h4⟩ : ∃ d, (k == 4) = d := ⟨_, rfl⟩
  obtain ⟨d3, h3⟩ : ∃ d, (p == 3) = d := ⟨_, rfl⟩
  obtain ⟨d1, h1⟩ : ∃ d, (p == 1) = d := ⟨_, rfl⟩
  obtain ⟨d2, h2⟩ : ∃ d, (p == 2) = d := ⟨_, rfl⟩
  have n4 : (k != 4) = !d4 := by rw [bne, h4]
  have n1 : (p != 1) = !d1 := by rw [bne, h1]
  have n2 : (p != 2) = !d2 := by rw [bne, h2]
  have e4 : d4 = true → b = d3 := fun h => by rw [← h3]; exact hl1 (by simpa [h] using h4)
  have e1 : d1 = true → b = false := fun h => hl2 (by simpa [h] using h1)
  have e2 : d2 = true → b = false := fun h => hl3 (by simpa [h] using h2)
  clear hl1 hl2 hl3
  cases d4 <;> cases d3 <;> cases d1 <;> cases d2 <;> cases b <;> simp only [Bool.not_true, Bool.not_false] at n4 n1 n2 <;> first
    | (exfalso; revert e4 e1 e2; decide)
    | (clear e4 e1 e2
       go_wp2_with fail
       refine (HS.out _).mono ?_
       rintro e w' ⟨rfl, rfl⟩
       go_wp2
       go_ret
       exact ⟨rfl, b1⟩)

end Go.Proofs.Ytmhflifaeplalaa.ScA
