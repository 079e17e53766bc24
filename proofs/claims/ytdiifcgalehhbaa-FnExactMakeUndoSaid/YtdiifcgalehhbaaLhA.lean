/-
  insertOp of the model: its contract. For slices that read as a list of at most 2^20 operations.
-/
import Derived.Test.YtdiifcgalehhbaaK5
import Derived.Outline
namespace Go.Proofs.Ytdiifcgalehhbaa.LhA
open Go.RowKit Go.Proofs.Ytdiifcgalehhbaa.Base Go.Proofs.Ytdiifcgalehhbaa.St Go.Proofs.Ytdiifcgalehhbaa.StB Go.Proofs.Ytdiifcgalehhbaa.OpA Go.Proofs.Ytdiifcgalehhbaa.OpB Go.Proofs.Ytdiifcgalehhbaa.LgA Go.Proofs.Ytdiifcgalehhbaa.LgB Go.Proofs.Ytdiifcgalehhbaa.LgC Go.Proofs.Ytdiifcgalehhbaa.LgF Go.Proofs.Ytdiifcgalehhbaa.LgP Go.Proofs.Ytdiifcgalehhbaa.LgQ Go.Proofs.Ytdiifcgalehhbaa.LgR Go.Proofs.Ytdiifcgalehhbaa.LgZ
set_option linter.unusedVariables false
attribute [local go_sem ↓] Go.wp_at_zero Go.wp_at_succ
attribute [local irreducible] Go.wpQuiet

theorem step_at (o : OpV) (K : List OpV → List OpV) : ∀ (k : Nat) (os : List OpV), k ≤ os.length → (∀ i, i < k → lt (os.getD i zop) o = true) → mstep o K os = os.take k ++ mstep o K (os.drop k)
  | 0, os, _, _ => by simp
  | k + 1, [], h, _ => by simp at h
  | k + 1, x :: r, h, hh => by
    have h0 : lt x o = true := hh 0 (by omega)
    rw [mstep, if_pos h0, step_at o K k r (by simpa using h) (fun i hi => hh (i + 1) (by omega))]
    rfl
theorem drop_cons (os : List OpV) (k : Nat) (h : k < os.length) : os.drop k = os.getD k zop :: os.drop (k + 1) := by
  rw [List.drop_eq_getElem_cons h, List.getD_eq_getElem?_getD, List.getElem?_eq_getElem h]
  rfl
/-- The operation is there already. -/
theorem step_same (o : OpV) (os : List OpV) (k : Nat) (hk : k < os.length) (hh : ∀ i, i < k → lt (os.getD i zop) o = true) (e1 : (os.getD k zop).i = o.i) (e2 : (os.getD k zop).j = o.j) : mstep o id os = os := by
  have h1 : lt (os.getD k zop) o = false := by
    generalize os.getD k zop = x at e1 e2
    simp [lt, slt, e1, e2]
  have h2 : lt o (os.getD k zop) = false := by
    generalize os.getD k zop = x at e1 e2
    simp [lt, slt, e1, e2]
  rw [step_at o id k os (by omega) hh, drop_cons os k hk, mstep]
  rw [if_neg (by rw [h1]; exact Bool.false_ne_true), if_neg (by rw [h2]; exact Bool.false_ne_true)]
  show os.take k ++ (os.getD k zop :: os.drop (k + 1)) = os
  rw [← drop_cons os k hk, List.take_append_drop]
/-- It goes in at place k. -/
theorem step_in (o : OpV) (os : List OpV) (k : Nat) (hk : k ≤ os.length) (hh : ∀ i, i < k → lt (os.getD i zop) o = true) (h : k = os.length ∨ (lt (os.getD k zop) o = false ∧ ¬ ((os.getD k zop).i = o.i ∧ (os.getD k zop).j = o.j))) :
    mstep o id os = [] ++ os.take k ++ [o] ++ os.drop k := by
  rw [step_at o id k os hk hh]
  have : mstep o id (os.drop k) = o :: os.drop k := by
    by_cases e : k = os.length
    · subst e; simp [mstep]
    · rcases h with h | ⟨h1, h2⟩
      · exact absurd h e
      · rw [drop_cons os k (by omega), mstep, if_neg (by rw [h1]; exact Bool.false_ne_true), if_pos]
        · rfl
        · generalize os.getD k zop = x at h1 h2
          simp [lt, slt] at h1 h2 ⊢
          omega
  rw [this]
  simp
/-- The answer of insertOp: the log itself, or a slice of the call's own. -/
def InsR (w : World) (A : Option Addr) (c : Nat) (os ps : List OpV) (e : Ending) (w' : World) : Prop :=
  ∃ a' c', e = .returned (.slice a' ps.length c') ∧ ps.length ≤ c' ∧ RdO w' a' ps ∧ ((a' = A ∧ c' = c ∧ ps = os) ∨ OwnsO w' w.heap.size (.slice a' ps.length c') ps) ∧ Below w.heap.size w w'
theorem own_le {w : World} {lo : Nat} {a : Option Addr} {n c : Nat} {os : List OpV} (h : OwnsO w lo (.slice a n c) os) : os.length ≤ c := by
  rcases h.2 with ⟨h, h0⟩ | ⟨g, cap, cur, e, _, _, hn, _⟩
  · omega
  · injection e with _ _ e
    omega
theorem ins_own {w W : World} {A : Option Addr} {c : Nat} {os ps : List OpV} {v : Value} (h : OwnsO W w.heap.size v ps) (hb : Below w.heap.size w W) : InsR w A c os ps (.returned v) W := by
  obtain ⟨a', c', rfl, hr⟩ := ownedO h
  exact ⟨a', c', rfl, own_le h, hr.rd, .inr h, hb⟩
theorem specLt (q o : OpV) (r : Bool) (h : lt q o = r) (w : World) : Calls Try.prog 40 #[.agg #[.int .i64 q.i, .int .i64 q.j], .agg #[.int .i64 o.i, .int .i64 o.j]] w fun e w' => e = .returned (.bool r) ∧ Below w.heap.size w w' := specLess q.i q.j o.i o.j r h w
theorem at_ {w W0 W : World} {n : Nat} {o : OpV} (h : W0.rangeAt n 0 (opL o)) (hb : Below W0.heap.size W0 W) : W.rangeAt n 0 (opL o) := rangeAt_below h hb (rangeAt_lt h)

end Go.Proofs.Ytdiifcgalehhbaa.LhA
