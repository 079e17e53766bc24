/-
  What the markup of runs is: tags, escaped texts, and how long they are at most. Plain facts on lists; no condition.
-/
import Derived.Test.YtmhflifaeplalaaRtA
import Derived.Test.YtmhflifaeplalaaBtA
namespace Go.Proofs.Ytmhflifaeplalaa.RmM
open Go.RowKit Go.Proofs.Ytmhflifaeplalaa.Base Go.Proofs.Ytmhflifaeplalaa.GsA Go.Proofs.Ytmhflifaeplalaa.GrB Go.Proofs.Ytmhflifaeplalaa.RtA Go.Proofs.Ytmhflifaeplalaa.BtA
set_option linter.unusedVariables false

/-- The letter of a tag. -/
def tag (b : Nat) : UInt8 := if b = 0 then 98 else if b = 1 then 105 else 99
/-- The closing tag of bit b, where there is one; the opening one. -/
def clB (was now : Int) (b : Nat) : List UInt8 := if hb was b && !hb now b then [60, 47, tag b, 62] else []
def opB (was now : Int) (b : Nat) : List UInt8 := if hb now b && !hb was b then [60, tag b, 62] else []
def clTo (was now : Int) : Nat → List UInt8
  | 0 => []
  | j + 1 => clTo was now j ++ clB was now (2 - j)
def opTo (was now : Int) : Nat → List UInt8
  | 0 => []
  | j + 1 => opTo was now j ++ opB was now j
def tags (was now : Int) : List UInt8 := clTo was now 3 ++ opTo was now 3
def esc (c : UInt8) : List UInt8 := if c = 60 then [38, 108, 116, 59] else if c = 38 then [38, 97, 109, 112, 59] else [c]
def escL : List UInt8 → List UInt8
  | [] => []
  | c :: r => esc c ++ escL r
theorem escL_append (a b : List UInt8) : escL (a ++ b) = escL a ++ escL b := by
  induction a with
  | nil => rfl
  | cons c r ih => simp [escL, ih]
def wasAt (xs : List RunV) : Nat → Int
  | 0 => 0
  | k + 1 => (xs.getD k zRun).m
def body (xs : List RunV) : Nat → List UInt8
  | 0 => []
  | k + 1 => body xs k ++ tags (wasAt xs k) (wasAt xs (k + 1)) ++ escL (xs.getD k zRun).tx.data.toList
def markup (xs : List RunV) : List UInt8 := body xs xs.length ++ tags (wasAt xs xs.length) 0

theorem clB_len (was now : Int) (b : Nat) : (clB was now b).length ≤ 4 := by unfold clB; split <;> simp
theorem opB_len (was now : Int) (b : Nat) : (opB was now b).length ≤ 4 := by unfold opB; split <;> simp
theorem clTo_len (was now : Int) (j : Nat) : (clTo was now j).length ≤ 4 * j := by
  induction j with
  | zero => exact Nat.le_refl _
  | succ j ih => rw [clTo, List.length_append]; have := clB_len was now (2 - j); omega
theorem opTo_len (was now : Int) (j : Nat) : (opTo was now j).length ≤ 4 * j := by
  induction j with
  | zero => exact Nat.le_refl _
  | succ j ih => rw [opTo, List.length_append]; have := opB_len was now j; omega
theorem tags_len (was now : Int) : (tags was now).length ≤ 24 := by
  rw [tags, List.length_append]
  have := clTo_len was now 3
  have := opTo_len was now 3
  omega
theorem esc_len (c : UInt8) : (esc c).length ≤ 5 := by
  unfold esc
  split
  · decide
  · split
    · decide
    · simp
theorem escL_len (l : List UInt8) : (escL l).length ≤ 5 * l.length := by
  induction l with
  | nil => exact Nat.le_refl _
  | cons c r ih => rw [escL, List.length_append, List.length_cons]; have := esc_len c; omega
theorem body_len (xs : List RunV) (k : Nat) : (body xs k).length ≤ 24 * k + 5 * txs xs k := by
  induction k with
  | zero => exact Nat.le_refl _
  | succ k ih =>
    rw [body, List.length_append, List.length_append]
    have h1 := tags_len (wasAt xs k) (wasAt xs (k + 1))
    have h2 := escL_len (xs.getD k zRun).tx.data.toList
    have h3 : (xs.getD k zRun).tx.data.toList.length = (xs.getD k zRun).tx.size := Array.length_toList
    rw [h3] at h2
    rw [show txs xs (k + 1) = txs xs k + (xs.getD k zRun).tx.size from rfl]
    omega
theorem markup_len (xs : List RunV) (h : xs.length ≤ 1048576) (ht : txs xs xs.length ≤ 1048576) : (markup xs).length ≤ 33554432 := by
  rw [markup, List.length_append]
  have h1 := body_len xs xs.length
  have h2 := tags_len (wasAt xs xs.length) 0
  omega

end Go.Proofs.Ytmhflifaeplalaa.RmM
