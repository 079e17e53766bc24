/-
  The walk of the law FnExactChecksum: it returns true at every text. No condition.
-/
import Derived.Test.YtdbnflgckcjlcaaCkB
import Derived.Test.YtdbnflgckcjlcaaCkC
namespace Go.Proofs.Ytdbnflgckcjlcaa.CkD
open Go.RowKit Go.Proofs.Ytdbnflgckcjlcaa.Base Go.Proofs.Ytdbnflgckcjlcaa.CkA Go.Proofs.Ytdbnflgckcjlcaa.CkB Go.Proofs.Ytdbnflgckcjlcaa.CkC
set_option linter.unusedVariables false

theorem walk (s : ByteArray) (w : World) (hs : s.size ≤ maxLen) :
    Calls Try.prog 3 #[.string s] w fun e w' => e = .returned (.bool true) ∧ Below w.heap.size w w' := by
  by_cases hl : s.size ≤ 1048576
  · have hl' : ¬ (1048576 : Int) < (s.size : Int) := by omega
    go_enter Try.func3, Try.ntmps3
    go_wp2_with (go_at_call 8; refine (spec_Checksum _ _ hl).mono ?_; rintro e w' ⟨rfl, rfl⟩)
    refine (impl_Checksum _ _ hl).mono ?_
    rintro e w1 ⟨rfl, hb⟩
    go_wp2
    go_ret
    exact ⟨rfl, hb⟩
  · have hl' : (1048576 : Int) < (s.size : Int) := by omega
    go_enter Try.func3, Try.ntmps3
    go_wp2
    go_ret
    exact ⟨rfl, Below.refl _ _⟩

theorem walkF (s : ByteArray) (hs : s.size ≤ maxLen) (w : World) : Calls Try.prog 3 #[.string s] w fun e w' => e = .returned (.bool true) ∧ Below w.heap.size w w' := walk s w hs

end Go.Proofs.Ytdbnflgckcjlcaa.CkD
