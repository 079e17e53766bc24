/-
  DrawUndoTarget of the reader: a slice of at most 29 operations with short texts and a number; nothing that was there is written. For every slice of bytes.
-/
import Derived.Test.YtlogpbejfifgdaaRfC
import Derived.Test.YtlogpbejfifgdaaK4
namespace Go.Proofs.Ytlogpbejfifgdaa.UdA
open Go.RowKit Go.Proofs.Ytlogpbejfifgdaa.Base Go.Proofs.Ytlogpbejfifgdaa.OpA Go.Proofs.Ytlogpbejfifgdaa.OpB Go.Proofs.Ytlogpbejfifgdaa.LgA Go.Proofs.Ytlogpbejfifgdaa.LgB Go.Proofs.Ytlogpbejfifgdaa.LgC Go.Proofs.Ytlogpbejfifgdaa.RdA Go.Proofs.Ytlogpbejfifgdaa.RdB Go.Proofs.Ytlogpbejfifgdaa.RdD Go.Proofs.Ytlogpbejfifgdaa.RfC
set_option linter.unusedVariables false

/-- A log and a number that are drawn. -/
def DrawnU (w : World) (e : Ending) (w' : World) : Prop :=
  (∃ (A : Option Addr) (c : Nat) (os : List OpV) (z : Int), e = .returned (.tuple #[.slice A os.length c, .int .i64 z]) ∧ RowO w.heap.size w' A c os.length (fun i => os.getD i zop) ∧ os.length ≤ 29 ∧ ∀ k, k < os.length → (os.getD k zop).tx.size ≤ 8) ∧ Below w.heap.size w w'

set_option maxRecDepth 100000 in
theorem drawUndo (a : Option Addr) (cap : Nat) (xs : List Int) (w : World) (rx : RdB w a xs) (hx : xs.length ≤ cap) :
    Calls Try.prog 20 #[.slice a xs.length cap] w (DrawnU w) := by
  have HN := Lib.hid (newReader a cap xs w rx hx)
  clear rx
  go_enter Try.func20, Try.ntmps20
  go_wp2_with fail
  refine HN.out.mono ?_
  rintro e w1 ⟨rfl, ⟨a1, c1, zs, hs⟩, b1, hz⟩
  have HA := Lib.hid (anyLog (w.heap.size + 1) w.heap.size a1 c1 0 zs w1 hs (by omega) (by omega))
  clear hs HN
  go_wp2_with fail
  refine HA.out.mono ?_
  rintro e w2 ⟨⟨A, c, os, rfl, hrow, hlen, ht⟩, ⟨p, hp, hs2⟩, hw⟩
  have B2 : Below w.heap.size w w2 := b1.trans (hw.below (by omega) (Nat.le_refl _))
  have z2 := hw.size
  have HRow := Lib.hid hrow
  have HT := Lib.hid ht
  have HP := Lib.hid (pickS (w.heap.size + 1) w.heap.size a1 c1 p 5 zs w2 hs2 (by omega) (by omega) (by omega))
  clear hrow ht HA hs2
  go_wp2_with fail
  refine HP.out.mono ?_
  rintro e w3 ⟨⟨k, hk, rfl⟩, hs3, hw3⟩
  have B3 : Below w.heap.size w w3 := B2.trans (hw3.below (by omega) (Nat.le_refl _))
  have HRow3 := Lib.hid (RowO.wr HRow.out hw3 (by omega))
  clear hs3 hw3 HP
  have hk0 : (0 : Int) ≤ (k : Int) := Int.natCast_nonneg _
  have hk1 : (k : Int) < 5 := by omega
  go_wp2
  go_ret2
  refine ⟨⟨A, c, os, _, rfl, ?_, hlen, HT.out⟩, B3⟩
  rcases HRow3.out with h | ⟨b, ha, hl, h⟩
  · exact .inl h
  · exact .inr ⟨b, ha, by omega, h⟩

end Go.Proofs.Ytlogpbejfifgdaa.UdA
