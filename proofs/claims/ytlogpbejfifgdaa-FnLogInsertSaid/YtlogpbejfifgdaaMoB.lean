/-
  findOp and equalLogs of the laws: the place of an operation with that ID, or -1 where none has it; true at two slices that read as one list. For every slice that reads as a list of at most 2^20 operations.
-/
import Derived.Test.YtlogpbejfifgdaaMoA
import Derived.Outline
namespace Go.Proofs.Ytlogpbejfifgdaa.MoB
open Go.RowKit Go.Proofs.Ytlogpbejfifgdaa.Base Go.Proofs.Ytlogpbejfifgdaa.OpA Go.Proofs.Ytlogpbejfifgdaa.OpB Go.Proofs.Ytlogpbejfifgdaa.LgA Go.Proofs.Ytlogpbejfifgdaa.LgB Go.Proofs.Ytlogpbejfifgdaa.LgF Go.Proofs.Ytlogpbejfifgdaa.LgP
set_option linter.unusedVariables false
attribute [local go_sem ↓] Go.wp_at_zero Go.wp_at_succ
attribute [local irreducible] Go.wpQuiet

theorem all_succ {os : List OpV} {s t : Int} {k : Nat} (h : ∀ m, m < k → ¬ ((os.getD m zop).i = s ∧ (os.getD m zop).j = t)) (h2 : ¬ ((os.getD k zop).i = s ∧ (os.getD k zop).j = t)) : ∀ m, m < k + 1 → ¬ ((os.getD m zop).i = s ∧ (os.getD m zop).j = t) := by
  intro m hm
  by_cases e : m = k
  · subst e; exact h2
  · exact h m (by omega)

set_option maxRecDepth 100000 in
set_option maxHeartbeats 2000000 in
theorem findOp (A : Option Addr) (c : Nat) (os : List OpV) (s t : Int) (w : World) (hr : RdO w A os) (hl : os.length ≤ 1048576) :
    Calls Try.prog 19 #[.slice A os.length c, .agg #[.int .i64 s, .int .i64 t]] w fun e w' => ((∃ k : Nat, e = .returned (.int .i64 k) ∧ k < os.length ∧ (os.getD k zop).i = s ∧ (os.getD k zop).j = t) ∨ (e = .returned (.int .i64 (-1)) ∧ ∀ m, m < os.length → ¬ ((os.getD m zop).i = s ∧ (os.getD m zop).j = t))) ∧ Below w.heap.size w w' := by
  have HA := Lib.hid hr
  clear hr
  go_enter Try.func19, Try.ntmps19
  go_wp2
  go_loopw [5] (fun i wr => ∃ k : Nat, k ≤ os.length ∧ i = .int .i64 k ∧ Hid (∀ m, m < k → ¬ ((os.getD m zop).i = s ∧ (os.getD m zop).j = t)) ∧ Below w.heap.size w wr ∧ wr.cell? ⟨w.heap.size, 0, none⟩ = some (.int .i64 s) ∧ wr.cell? ⟨w.heap.size, 1, none⟩ = some (.int .i64 t)) (fun i _ => os.length - (intOf i).toNat)
  case atStart => exact ⟨0, Nat.zero_le _, rfl, fun m hm => absurd hm (by omega), (Below.refl _ _).alloc (Nat.le_refl _) _, by simp [go_sem], by simp [go_sem]⟩
  case round =>
    obtain ⟨k, hkn, rfl, hall, hnx, hc0, hc1⟩ := hrel
    by_cases hlt : k < os.length
    · rcases HA.out with h0 | ⟨b, off, rfl, hcc⟩
      · rw [h0] at hlt
        cases hlt
      obtain ⟨q, hq⟩ : ∃ q, q = os.getD k zop := ⟨_, rfl⟩
      have HR := Lib.hid (by rw [hq]; exact rangeAt_below (hcc k hlt) hnx (rangeAt_lt (hcc k hlt)) : wr.rangeAt b (off + k * 12) (opL q))
      have HQ := Lib.hid hq
      have H0 := Lib.hid hc0
      have H1 := Lib.hid hc1
      have hlw : w.heap.size < wr.heap.size := World.block_lt_of_cell? wr _ hc0
      clear hq hcc hc0 hc1
      have hk0 : (0 : Int) ≤ (k : Int) := Int.natCast_nonneg _
      have hk1 : (k : Int) < (os.length : Int) := by omega
      rcases (show (q.i = s ∧ q.j = t) ∨ (¬ q.i = s) ∨ (q.i = s ∧ ¬ q.j = t) from by omega) with ⟨e1, e2⟩ | e1 | ⟨e1, e2⟩
      · have HS := Lib.hid (show (os.getD k zop).i = s ∧ (os.getD k zop).j = t from by rw [← HQ.out]; exact ⟨e1, e2⟩)
        have g1 : (q.i == s) = true := by simp [e1]
        have g2 : (q.j == t) = true := by simp [e2]
        clear e1 e2
        go_wp2
        refine region_lit (C := fun W => Below wr.heap.size wr W) (by kernel_rfl) (by kernel_rfl) (Below.refl _ _).drew ?_
        repeat (
          first
            | (refine wpQuiet_step (fun K hK => ?_)
               go_simp
               first
                 | (refine hK _ ?_; clear hK K)
                 | (apply Exists.intro
                    refine ⟨fun W hW => ?_, hK _ ?_⟩
                    · have x0 := (hW.cell (p := ⟨w.heap.size, 0, none⟩) hlw).trans H0.out
                      have x1 := (hW.cell (p := ⟨w.heap.size, 1, none⟩) hlw).trans H1.out
                      obtain ⟨q0, q1, q2, q3, q4, q5, q6, q7, q8, q9, q10, q11⟩ := c12 (rangeAt_below HR.out hW (rangeAt_lt HR.out))
                      first
                        | (go_simp; exact rfl)
                        | (go_simp; exact ⟨rfl, rfl⟩)
                    clear hK K)))
        refine wpQuiet_nil ?_
        intro W1 hW1
        have hB := hnx.trans (hW1.mono hnx.size)
        have y0 := (hW1.cell (p := ⟨w.heap.size, 0, none⟩) hlw).trans H0.out
        have y1 := (hW1.cell (p := ⟨w.heap.size, 1, none⟩) hlw).trans H1.out
        go_wp2
        go_ret
        exact ⟨.inl ⟨k, rfl, hlt, HS.out⟩, hB⟩
      · have HN := Lib.hid (all_succ hall.out (by rw [← HQ.out]; exact fun h => e1 h.1))
        have g1 : (q.i == s) = false := by simp [e1]
        clear e1
        go_wp2
        refine region_lit (C := fun W => Below wr.heap.size wr W) (by kernel_rfl) (by kernel_rfl) (Below.refl _ _).drew ?_
        repeat (
          first
            | (refine wpQuiet_step (fun K hK => ?_)
               go_simp
               first
                 | (refine hK _ ?_; clear hK K)
                 | (apply Exists.intro
                    refine ⟨fun W hW => ?_, hK _ ?_⟩
                    · have x0 := (hW.cell (p := ⟨w.heap.size, 0, none⟩) hlw).trans H0.out
                      have x1 := (hW.cell (p := ⟨w.heap.size, 1, none⟩) hlw).trans H1.out
                      obtain ⟨q0, q1, q2, q3, q4, q5, q6, q7, q8, q9, q10, q11⟩ := c12 (rangeAt_below HR.out hW (rangeAt_lt HR.out))
                      first
                        | (go_simp; exact rfl)
                        | (go_simp; exact ⟨rfl, rfl⟩)
                    clear hK K)))
        refine wpQuiet_nil ?_
        intro W1 hW1
        have hB := hnx.trans (hW1.mono hnx.size)
        have y0 := (hW1.cell (p := ⟨w.heap.size, 0, none⟩) hlw).trans H0.out
        have y1 := (hW1.cell (p := ⟨w.heap.size, 1, none⟩) hlw).trans H1.out
        go_wp2
        go_roundw
        case rel => exact ⟨k + 1, by omega, by go_num, HN.out, hB, y0, y1⟩
        case measure => simp [intOf]; omega
      · have HN := Lib.hid (all_succ hall.out (by rw [← HQ.out]; exact fun h => e2 h.2))
        have g1 : (q.i == s) = true := by simp [e1]
        have g2 : (q.j == t) = false := by simp [e2]
        clear e1 e2
        go_wp2
        refine region_lit (C := fun W => Below wr.heap.size wr W) (by kernel_rfl) (by kernel_rfl) (Below.refl _ _).drew ?_
        repeat (
          first
            | (refine wpQuiet_step (fun K hK => ?_)
               go_simp
               first
                 | (refine hK _ ?_; clear hK K)
                 | (apply Exists.intro
                    refine ⟨fun W hW => ?_, hK _ ?_⟩
                    · have x0 := (hW.cell (p := ⟨w.heap.size, 0, none⟩) hlw).trans H0.out
                      have x1 := (hW.cell (p := ⟨w.heap.size, 1, none⟩) hlw).trans H1.out
                      obtain ⟨q0, q1, q2, q3, q4, q5, q6, q7, q8, q9, q10, q11⟩ := c12 (rangeAt_below HR.out hW (rangeAt_lt HR.out))
                      first
                        | (go_simp; exact rfl)
                        | (go_simp; exact ⟨rfl, rfl⟩)
                    clear hK K)))
        refine wpQuiet_nil ?_
        intro W1 hW1
        have hB := hnx.trans (hW1.mono hnx.size)
        have y0 := (hW1.cell (p := ⟨w.heap.size, 0, none⟩) hlw).trans H0.out
        have y1 := (hW1.cell (p := ⟨w.heap.size, 1, none⟩) hlw).trans H1.out
        go_wp2
        go_roundw
        case rel => exact ⟨k + 1, by omega, by go_num, HN.out, hB, y0, y1⟩
        case measure => simp [intOf]; omega
    · obtain rfl : k = os.length := by omega
      go_wp2
      go_ret
      exact ⟨.inr ⟨rfl, hall.out⟩, hnx⟩

end Go.Proofs.Ytlogpbejfifgdaa.MoB
