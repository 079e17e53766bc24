/-
  eqOpS of the exact laws at two slices that read as one list: it answers true. For slices of at most 2^20.
-/
import Derived.Test.YtkkeaimoplkliaaLgD
import Derived.Outline
namespace Go.Proofs.Ytkkeaimoplkliaa.LgE
open Go.RowKit Go.Proofs.Ytkkeaimoplkliaa.Base Go.Proofs.Ytkkeaimoplkliaa.St Go.Proofs.Ytkkeaimoplkliaa.StB Go.Proofs.Ytkkeaimoplkliaa.OpA Go.Proofs.Ytkkeaimoplkliaa.OpW Go.Proofs.Ytkkeaimoplkliaa.OpB Go.Proofs.Ytkkeaimoplkliaa.OpT Go.Proofs.Ytkkeaimoplkliaa.LgA Go.Proofs.Ytkkeaimoplkliaa.LgB Go.Proofs.Ytkkeaimoplkliaa.LgC Go.Proofs.Ytkkeaimoplkliaa.LgD
set_option linter.unusedVariables false

set_option maxRecDepth 100000 in
theorem eqOpS (a a' : Option Addr) (c c' : Nat) (os : List OpV) (w : World) (hx : RdO w a os) (hy : RdO w a' os) (hl : os.length ≤ 1048576) :
    Calls Try.prog 23 #[.slice a os.length c, .slice a' os.length c'] w fun e w' => e = .returned (.bool true) ∧ Below w.heap.size w w' := by
  rcases hx with rfl | ⟨b, off, rfl, hc⟩
  · go_enter Try.func23, Try.ntmps23
    go_wp2
    go_rounds 1
    go_ret
    exact ⟨rfl, Below.refl _ _⟩
  · rcases hy with rfl | ⟨b', off', rfl, hc'⟩
    · go_enter Try.func23, Try.ntmps23
      go_wp2
      go_rounds 1
      go_ret
      exact ⟨rfl, Below.refl _ _⟩
    · have HC := Lib.hid hc
      have HC' := Lib.hid hc'
      clear hc hc'
      go_enter Try.func23, Try.ntmps23
      go_wp2
      go_loopw [5] (fun i wr => ∃ k : Nat, k ≤ os.length ∧ i = .int .i64 k ∧ Below w.heap.size w wr) (fun i _ => os.length - (intOf i).toNat)
      case atStart => exact ⟨0, Nat.zero_le _, rfl, Below.refl _ _⟩
      case round =>
        obtain ⟨k, hk, rfl, hnx⟩ := hrel
        by_cases hlt : k < os.length
        · obtain ⟨o, ho⟩ : ∃ o, o = os.getD k zop := ⟨_, rfl⟩
          have HR := Lib.hid (by rw [ho]; exact rangeAt_below (HC.out k hlt) hnx (rangeAt_lt (HC.out k hlt)) : wr.rangeAt b (off + k * 12) (opL o))
          have HR' := Lib.hid (by rw [ho]; exact rangeAt_below (HC'.out k hlt) hnx (rangeAt_lt (HC'.out k hlt)) : wr.rangeAt b' (off' + k * 12) (opL o))
          have HO := Lib.hid ho
          clear ho
          have hk0 : (0 : Int) ≤ (k : Int) := Int.natCast_nonneg _
          have hk1 : (k : Int) < (os.length : Int) := by omega
          go_wp2
          go_region_held3 (fun w' => C12 w' b (off + k * 12) o ∧ C12 w' b' (off' + k * 12) o ∧ Below wr.heap.size wr w')
            (first | exact ⟨c12 HR.out, c12 HR'.out, (Below.refl _ _).drew⟩ | (have hB : Below wr.heap.size wr w1 := (Below.refl _ _).drew.trans hb1; exact ⟨c12 (rangeAt_below HR.out hB (rangeAt_lt HR.out)), c12 (rangeAt_below HR'.out hB (rangeAt_lt HR'.out)), hB⟩))
            (first | (go_at_call 61; refine (eqOp_refl o _).mono ?_; rintro e w1 ⟨rfl, hb1⟩))
          go_wp2
          go_roundw
          case rel => exact ⟨k + 1, by omega, by go_num, hnx.trans ((And.right (And.right (by assumption : C12 _ b (off + k * 12) o ∧ C12 _ b' (off' + k * 12) o ∧ Below wr.heap.size wr _))).mono hnx.size)⟩
          case measure => simp [intOf]; omega
        · obtain rfl : k = os.length := by omega
          go_wp2
          go_ret
          exact ⟨rfl, hnx⟩

end Go.Proofs.Ytkkeaimoplkliaa.LgE
