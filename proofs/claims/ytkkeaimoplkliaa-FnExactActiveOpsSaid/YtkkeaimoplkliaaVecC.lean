/-
  Contracts of upper, lower and entries of the program's vectors, and of VectorLessEqual in both packages, and the walk of the law FnExactVectorLessEqual. For every argument; no condition.
-/
import Derived.Test.YtkkeaimoplkliaaVecB
import Derived.WalkLawsBesides
import Derived.WalkSpells
namespace Go.Proofs.Ytkkeaimoplkliaa.VecC
open Go.RowKit Go.Proofs.Ytkkeaimoplkliaa.Base Go.Proofs.Ytkkeaimoplkliaa.St Go.Proofs.Ytkkeaimoplkliaa.Vec Go.Proofs.Ytkkeaimoplkliaa.Row Go.Proofs.Ytkkeaimoplkliaa.VecA

def mx (x y : Int) : Int := if x < y then y else x
def mn (x y : Int) : Int := if y < x then y else x
theorem mx_cases (x y : Int) : (x < y ∧ mx x y = y) ∨ (y ≤ x ∧ mx x y = x) := by
  unfold mx
  by_cases h : x < y
  · exact .inl ⟨h, by simp [h]⟩
  · exact .inr ⟨by omega, by simp [h]⟩
theorem mn_cases (x y : Int) : (y < x ∧ mn x y = y) ∨ (x ≤ y ∧ mn x y = x) := by
  unfold mn
  by_cases h : y < x
  · exact .inl ⟨h, by simp [h]⟩
  · exact .inr ⟨by omega, by simp [h]⟩

set_option maxHeartbeats 2000000 in
theorem upper (x0 x1 x2 y0 y1 y2 : Int) (w : World) :
    Calls Try.prog 83 #[.agg #[.int .i64 x0, .int .i64 x1, .int .i64 x2], .agg #[.int .i64 y0, .int .i64 y1, .int .i64 y2]] w fun e w' =>
      e = .returned (.agg #[.int .i64 (mx x0 y0), .int .i64 (mx x1 y1), .int .i64 (mx x2 y2)]) ∧ Below w.heap.size w w' := by
  have i0 : ∀ w, (Instr.index 84 (.agg #[.int .i64 y0, .int .i64 y1, .int .i64 y2]) (.int .i64 0)).run Try.prog w = .ok (.int .i64 y0) w := fun _ => by kernel_rfl
  have i1 : ∀ w, (Instr.index 84 (.agg #[.int .i64 y0, .int .i64 y1, .int .i64 y2]) (.int .i64 1)).run Try.prog w = .ok (.int .i64 y1) w := fun _ => by kernel_rfl
  have i2 : ∀ w, (Instr.index 84 (.agg #[.int .i64 y0, .int .i64 y1, .int .i64 y2]) (.int .i64 2)).run Try.prog w = .ok (.int .i64 y2) w := fun _ => by kernel_rfl
  rcases mx_cases x0 y0 with ⟨h0, e0⟩ | ⟨h0, e0⟩ <;> rw [e0] <;> clear e0 <;> rcases mx_cases x1 y1 with ⟨h1, e1⟩ | ⟨h1, e1⟩ <;> rw [e1] <;> clear e1 <;> rcases mx_cases x2 y2 with ⟨h2, e2⟩ | ⟨h2, e2⟩ <;> rw [e2] <;> clear e2
  all_goals
    go_enter Try.func83, Try.ntmps83
    go_wp2
    refine wp_loop_rounds 4 ?_
    rw [rounds_succ]
    go_wp2
    rw [rounds_succ]
    go_wp2
    rw [rounds_succ]
    go_wp2
    rw [rounds_succ]
    go_wp2
    go_returns
    refine ⟨rfl, ?_⟩
    go_grown

end Go.Proofs.Ytkkeaimoplkliaa.VecC
