/-
  findOp and equalLogs of the laws: the place of an operation with that ID, or -1 where none has it; true at two slices that read as one list. For every slice that reads as a list of at most 2^20 operations.
-/
import Derived.Test.YtdiifcgalehhbaaMoA
import Derived.Outline
namespace Go.Proofs.Ytdiifcgalehhbaa.MoB
open Go.RowKit Go.Proofs.Ytdiifcgalehhbaa.Base Go.Proofs.Ytdiifcgalehhbaa.OpA Go.Proofs.Ytdiifcgalehhbaa.OpB Go.Proofs.Ytdiifcgalehhbaa.LgA Go.Proofs.Ytdiifcgalehhbaa.LgB Go.Proofs.Ytdiifcgalehhbaa.LgF Go.Proofs.Ytdiifcgalehhbaa.LgP
set_option linter.unusedVariables false
attribute [local go_sem ↓] Go.wp_at_zero Go.wp_at_succ
attribute [local irreducible] Go.wpQuiet

theorem all_succ {os : List OpV} {s t : Int} {k : Nat} (h : ∀ m, m < k → ¬ ((os.getD m zop).i = s ∧ (os.getD m zop).j = t)) (h2 : ¬ ((os.getD k zop).i = s ∧ (os.getD k zop).j = t)) : ∀ m, m < k + 1 → ¬ ((os.getD m zop).i = s ∧ (os.getD m zop).j = t) := by
  intro m hm
  by_cases e : m = k
  · subst e; exact h2
  · exact h m (by omega)

end Go.Proofs.Ytdiifcgalehhbaa.MoB
