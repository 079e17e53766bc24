/-
  Marks, once more: contracts of markOpS, heldOpS, markIntS and heldIntS whose answers are letters. For rows of at most 2^20 entries.
-/
import Derived.Test.YtkkeaimoplkliaaLgO
import Derived.Test.YtkkeaimoplkliaaLgS
import Derived.Test.YtkkeaimoplkliaaLgE
import Derived.Test.YtkkeaimoplkliaaRowC
namespace Go.Proofs.Ytkkeaimoplkliaa.LgT
open Go.RowKit Go.Proofs.Ytkkeaimoplkliaa.Base Go.Proofs.Ytkkeaimoplkliaa.St Go.Proofs.Ytkkeaimoplkliaa.StB Go.Proofs.Ytkkeaimoplkliaa.Vec Go.Proofs.Ytkkeaimoplkliaa.Row Go.Proofs.Ytkkeaimoplkliaa.RowB Go.Proofs.Ytkkeaimoplkliaa.OpA Go.Proofs.Ytkkeaimoplkliaa.OpB Go.Proofs.Ytkkeaimoplkliaa.LgA Go.Proofs.Ytkkeaimoplkliaa.LgB Go.Proofs.Ytkkeaimoplkliaa.LgC Go.Proofs.Ytkkeaimoplkliaa.LgN Go.Proofs.Ytkkeaimoplkliaa.LgO
set_option linter.unusedVariables false

theorem markO (lo : Nat) (a : Option Addr) (c n : Nat) (f : Nat → OpV) (x : Int) (q0 : Nat) (y : Int) (w : World) (hx : x = q0) (hy : y = ((q0 + 12 * n : Nat) : Int)) (hr : RowO lo w a c n f) (hn : n ≤ 1048576) (hq0 : 1 ≤ q0) (hq : q0 ≤ 549755813888) :
    Calls Try.prog 26 #[.slice a n c, .int .i64 x] w fun e w' => e = .returned (.int .i64 y) ∧ RowO lo w' a c n (fun i => mk (q0 + 12 * i)) ∧ w.grownBy w' (blkA a) := by
  subst hx hy
  exact markRow lo a c n f q0 w hr hn hq0 hq
theorem heldO (lo : Nat) (a : Option Addr) (c n : Nat) (x : Int) (q0 : Nat) (y : Int) (w : World) (hx : x = q0) (hy : y = ((q0 + 12 * n : Nat) : Int)) (hr : RowO lo w a c n (fun i => mk (q0 + 12 * i))) (hn : n ≤ 1048576) (hq0 : 1 ≤ q0) (hq : q0 ≤ 549755813888) :
    Calls Try.prog 27 #[.slice a n c, .int .i64 x] w fun e w' => e = .returned (.int .i64 y) ∧ Below w.heap.size w w' := by
  subst hx hy
  exact heldRow lo a c n q0 w hr hn hq0 hq
theorem markI (lo : Nat) (a : Option Addr) (c n : Nat) (f : Nat → Int) (k y : Int) (w : World) (hy : y = k + n) (hr : RowF lo w a c n f) (hn : n ≤ 1048576) (hk : 0 ≤ k ∧ k ≤ 1099511627776) :
    Calls Try.prog 33 #[.slice a n c, .int .i64 k] w fun e w' => e = .returned (.int .i64 y) ∧ RowF lo w' a c n (fun i => k + i) ∧ w.grownBy w' (blk a) := by
  subst hy
  exact markIntS a c n f k w lo hr hn hk
theorem heldI (lo : Nat) (a : Option Addr) (c n : Nat) (k y : Int) (w : World) (hy : y = k + n) (hr : RowF lo w a c n (fun i => k + i)) (hn : n ≤ 1048576) (hk : 0 ≤ k ∧ k ≤ 1099511627776) :
    Calls Try.prog 34 #[.slice a n c, .int .i64 k] w fun e w' => e = .returned (.int .i64 y) ∧ Below w.heap.size w w' := by
  subst hy
  refine (heldIntS a c n k w lo hr hn hk).mono ?_
  rintro e w' ⟨rfl, rfl⟩
  exact ⟨rfl, Below.refl _ _⟩
/-- A slice over a new block. -/
theorem newRowO {lo : Nat} {w : World} {b : Nat} {os : List OpV} (hb : lo ≤ b) (h : OwnO w b os.length os.length (fun i => os.getD i zop)) : RowO lo w (some ⟨b, 0, none⟩) os.length os.length (fun i => os.getD i zop) := .inr ⟨b, rfl, hb, h⟩
theorem newRowF {lo : Nat} {w : World} {b : Nat} {zs : List Int} (hb : lo ≤ b) (h : OwnI w b zs.length zs.length (fun i => zs.getD i 0)) : RowF lo w (some ⟨b, 0, none⟩) zs.length zs.length (fun i => zs.getD i 0) := .inr ⟨b, rfl, hb, h⟩
/-- The values returned are the slice of os (nil, or in new memory) and a Bool. -/
def GivesOB (w : World) (os : List OpV) (t : Bool) (e : Ending) (w' : World) : Prop :=
  ∃ a c, e = .returned (.tuple #[.slice a os.length c, .bool t]) ∧ RowO w.heap.size w' a c os.length (fun i => os.getD i zop) ∧ Below w.heap.size w w'

end Go.Proofs.Ytkkeaimoplkliaa.LgT
