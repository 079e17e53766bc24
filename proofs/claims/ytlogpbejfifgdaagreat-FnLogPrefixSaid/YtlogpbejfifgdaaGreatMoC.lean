/-
  equalLogs of the laws at two slices that read as one list: it answers true; whether two operations are equal. For slices of at most 2^20.
-/
import Derived.Test.YtlogpbejfifgdaaGreatMoA
import Derived.Deep.RegionHeld3
import Derived.Outline
namespace Go.Proofs.YtlogpbejfifgdaaGreat.MoC
open Go.RowKit Go.Proofs.YtlogpbejfifgdaaGreat.Base Go.Proofs.YtlogpbejfifgdaaGreat.St Go.Proofs.YtlogpbejfifgdaaGreat.StB Go.Proofs.YtlogpbejfifgdaaGreat.OpA Go.Proofs.YtlogpbejfifgdaaGreat.OpW Go.Proofs.YtlogpbejfifgdaaGreat.OpB Go.Proofs.YtlogpbejfifgdaaGreat.OpT Go.Proofs.YtlogpbejfifgdaaGreat.LgA Go.Proofs.YtlogpbejfifgdaaGreat.LgB Go.Proofs.YtlogpbejfifgdaaGreat.LgC Go.Proofs.YtlogpbejfifgdaaGreat.LgP Go.Proofs.YtlogpbejfifgdaaGreat.MoA
set_option linter.unusedVariables false

/-- Field by field. -/
def eqv (p q : OpV) : Bool := decide (p.i = q.i ∧ p.j = q.j ∧ p.k = q.k ∧ p.ts = q.ts ∧ p.ta = q.ta ∧ p.fs = q.fs ∧ p.fa = q.fa ∧ p.ns = q.ns ∧ p.na = q.na ∧ p.v = q.v ∧ p.en = q.en ∧ p.tx.toList = q.tx.toList)
theorem eqv_refl (p : OpV) : eqv p p = true := by simp [eqv]
theorem eqv_eq {p q : OpV} (h : eqv p q = true) : p = q := by
  cases p
  cases q
  simp only [eqv, decide_eq_true_eq] at h
  obtain ⟨h1, h2, h3, h4, h5, h6, h7, h8, h9, h10, h11, h12⟩ := h
  rw [ByteArray.toList_eq, ByteArray.toList_eq] at h12
  have h13 := ByteArray.ext (Array.toList_inj.1 h12)
  subst h1 h2 h3 h4 h5 h6 h7 h8 h9 h10 h11 h13
  rfl
theorem neqOp (p q : OpV) (w : World) : (binOp .neq 39 (.agg #[.int .i64 p.i, .int .i64 p.j, .int .i64 p.k, .int .i64 p.ts, .int .i64 p.ta, .int .i64 p.fs, .int .i64 p.fa, .int .i64 p.ns, .int .i64 p.na, .int .i64 p.v, .bool p.en, .string p.tx]) (.agg #[.int .i64 q.i, .int .i64 q.j, .int .i64 q.k, .int .i64 q.ts, .int .i64 q.ta, .int .i64 q.fs, .int .i64 q.fa, .int .i64 q.ns, .int .i64 q.na, .int .i64 q.v, .bool q.en, .string q.tx])).run Tryz.prog w = .ok (.bool (!(eqv p q))) w := by
  by_cases h : eqv p q = true
  · have h' := eqv_eq h
    subst h'
    rw [h]
    simp [go_sem]
  · rw [Bool.not_eq_true] at h
    rw [h]
    have h' : ¬ (p.i = q.i ∧ p.j = q.j ∧ p.k = q.k ∧ p.ts = q.ts ∧ p.ta = q.ta ∧ p.fs = q.fs ∧ p.fa = q.fa ∧ p.ns = q.ns ∧ p.na = q.na ∧ p.v = q.v ∧ p.en = q.en ∧ p.tx.toList = q.tx.toList) := of_decide_eq_false h
    clear h
    simp [go_sem]
    intro a1 a2 a3 a4 a5 a6 a7 a8 a9 a10 a11 a12
    exact h' ⟨a1, a2, a3, a4, a5, a6, a7, a8, a9, a10, a11, a12⟩
theorem neqOp' (p : OpV) (w : World) : (binOp .neq 39 (.agg #[.int .i64 p.i, .int .i64 p.j, .int .i64 p.k, .int .i64 p.ts, .int .i64 p.ta, .int .i64 p.fs, .int .i64 p.fa, .int .i64 p.ns, .int .i64 p.na, .int .i64 p.v, .bool p.en, .string p.tx]) (.agg #[.int .i64 p.i, .int .i64 p.j, .int .i64 p.k, .int .i64 p.ts, .int .i64 p.ta, .int .i64 p.fs, .int .i64 p.fa, .int .i64 p.ns, .int .i64 p.na, .int .i64 p.v, .bool p.en, .string p.tx])).run Tryz.prog w = .ok (.bool false) w := by rw [neqOp, eqv_refl]; rfl

set_option maxRecDepth 100000 in
theorem equalLogs (a a' : Option Addr) (c c' : Nat) (os : List OpV) (w : World) (hx : RdO w a os) (hy : RdO w a' os) (hl : os.length ≤ 1048576) :
    Calls Tryz.prog 11 #[.slice a os.length c, .slice a' os.length c'] w fun e w' => e = .returned (.bool true) ∧ Below w.heap.size w w' := by
  rcases hx with rfl | ⟨b, off, rfl, hc⟩
  · go_enter Tryz.func11, Tryz.ntmps11
    go_wp2
    go_rounds 1
    go_ret
    exact ⟨rfl, Below.refl _ _⟩
  · rcases hy with rfl | ⟨b', off', rfl, hc'⟩
    · go_enter Tryz.func11, Tryz.ntmps11
      go_wp2
      go_rounds 1
      go_ret
      exact ⟨rfl, Below.refl _ _⟩
    · have HC := Lib.hid hc
      have HC' := Lib.hid hc'
      clear hc hc'
      go_enter Tryz.func11, Tryz.ntmps11
      go_wp2
      go_loopw [5] (fun i wr => ∃ k : Nat, k ≤ os.length ∧ i = .int .i64 k ∧ Below w.heap.size w wr) (fun i _ => os.length - (intOf i).toNat)
      case atStart => exact ⟨0, Nat.zero_le _, rfl, Below.refl _ _⟩
      case round =>
        obtain ⟨k, hk, rfl, hnx⟩ := hrel
        by_cases hlt : k < os.length
        · obtain ⟨o, ho⟩ : ∃ o, o = os.getD k zop := ⟨_, rfl⟩
          have HR := Lib.hid (by rw [ho]; exact rangeAt_below (HC.out k hlt) hnx (rangeAt_lt (HC.out k hlt)) : wr.rangeAt b (off + k * 12) (opL o))
          have HR' := Lib.hid (by rw [ho]; exact rangeAt_below (HC'.out k hlt) hnx (rangeAt_lt (HC'.out k hlt)) : wr.rangeAt b' (off' + k * 12) (opL o))
          have HO := Lib.hid ho
          clear ho
          have hk0 : (0 : Int) ≤ (k : Int) := Int.natCast_nonneg _
          have hk1 : (k : Int) < (os.length : Int) := by omega
          have hne := neqOp' o
          go_wp2
          go_region_held3 (fun w' => C12 w' b (off + k * 12) o ∧ C12 w' b' (off' + k * 12) o ∧ Below wr.heap.size wr w')
            (first | exact ⟨c12 HR.out, c12 HR'.out, (Below.refl _ _).drew⟩ | assumption)
            (first | fail)
          go_wp2
          go_roundw
          case rel => exact ⟨k + 1, by omega, by go_num, hnx.trans ((And.right (And.right (by assumption : C12 _ b (off + k * 12) o ∧ C12 _ b' (off' + k * 12) o ∧ Below wr.heap.size wr _))).mono hnx.size)⟩
          case measure => simp [intOf]; omega
        · obtain rfl : k = os.length := by omega
          go_wp2
          go_ret
          exact ⟨rfl, hnx⟩

end Go.Proofs.YtlogpbejfifgdaaGreat.MoC
