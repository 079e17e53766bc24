/-
  Bits of 64-bit numbers: bit b of m, for b = 0, 1, 2; what and, andNot and the shift give. For numbers of 64 bits; no further condition.
-/
import Derived.Test.YtmhflifaeplalaaBase
import Derived.Laws.Bits64
namespace Go.Proofs.Ytmhflifaeplalaa.BtA
open Go.RowKit Go.Proofs.Ytmhflifaeplalaa.Base
set_option linter.unusedVariables false

/-- Bit b of m. -/
def hb (m : Int) (b : Nat) : Bool := m / 2 ^ b % 2 == 1
theorem toNat_i64 (m : Int) : (BitVec.ofInt 64 m).toNat = (m % 18446744073709551616).toNat := by
  rw [BitVec.toNat_ofInt]; rfl
theorem and1 (m : Int) : bits .and .i64 m 1 = m % 2 := by
  show IntKind.i64.wrap ((BitVec.ofInt 64 m &&& BitVec.ofInt 64 1).toNat : Int) = _
  have e1 : (BitVec.ofInt 64 1).toNat = 1 := by decide
  rw [BitVec.toNat_and, e1, Nat.and_one_is_mod, toNat_i64, IntKind.wrap_i64]
  omega
theorem bit_cases (m : Int) (b : Nat) : (hb m b = true ∧ m / 2 ^ b % 2 = 1) ∨ (hb m b = false ∧ m / 2 ^ b % 2 = 0) := by
  unfold hb
  rcases (show m / 2 ^ b % 2 = 0 ∨ m / 2 ^ b % 2 = 1 by omega) with h | h
  · right; exact ⟨by rw [h]; rfl, h⟩
  · left; exact ⟨by rw [h]; rfl, h⟩
theorem and_clear (u b : Nat) (hu : u < 2 ^ 64) (hb : b < 64) (h : u.testBit b = false) : u &&& (2 ^ 64 - (2 ^ b + 1)) = u := by
  apply Nat.eq_of_testBit_eq
  intro i
  have hp : 2 ^ b < 2 ^ 64 := Nat.pow_lt_pow_right (by decide) hb
  rw [Nat.testBit_and, Nat.testBit_two_pow_sub_succ hp, Nat.testBit_two_pow]
  by_cases e : b = i
  · subst e; simp [h]
  · by_cases hi : i < 64
    · simp [e, hi]
    · have : u.testBit i = false := Nat.testBit_lt_two_pow (Nat.lt_of_lt_of_le hu (Nat.pow_le_pow_right (by decide) (by omega)))
      simp [this]
theorem and_set (u b : Nat) (hb : b < 64) (h : u.testBit b = true) : u &&& (2 ^ 64 - (2 ^ b + 1)) ≠ u := by
  intro e
  have hp : 2 ^ b < 2 ^ 64 := Nat.pow_lt_pow_right (by decide) hb
  have : (u &&& (2 ^ 64 - (2 ^ b + 1))).testBit b = true := by rw [e]; exact h
  rw [Nat.testBit_and, Nat.testBit_two_pow_sub_succ hp, Nat.testBit_two_pow] at this
  simp at this
theorem wf_i64 {m : Int} (h : (Lit.int .i64 m).wf = true) : -9223372036854775808 ≤ m ∧ m < 9223372036854775808 := by
  simp [Lit.wf, IntKind.min, IntKind.max, IntKind.bits, IntKind.signed] at h
  omega
theorem andNot_nat (m c : Int) (hc : 0 ≤ c) (hc2 : c < 18446744073709551616) : bits .andNot .i64 m c = IntKind.i64.wrap (((m % 18446744073709551616).toNat &&& (2 ^ 64 - (c.toNat + 1)) : Nat) : Int) := by
  show IntKind.i64.wrap ((BitVec.ofInt 64 m &&& ~~~BitVec.ofInt 64 c).toNat : Int) = _
  rw [BitVec.toNat_and, BitVec.toNat_not, toNat_i64, toNat_i64, Int.emod_eq_of_lt hc hc2]
  have e : 2 ^ 64 - 1 - c.toNat = 2 ^ 64 - (c.toNat + 1) := by omega
  rw [e]
theorem wrap_inj {r u : Nat} {m : Int} (hr : r ≤ u) (hm : -9223372036854775808 ≤ m ∧ m < 9223372036854775808) (hu : u = (m % 18446744073709551616).toNat) : (IntKind.i64.wrap (r : Int) == m) = (r == u) := by
  rw [IntKind.wrap_i64, Bool.eq_iff_iff]
  simp only [beq_iff_eq]
  omega
theorem testBit_hb (m : Int) (b : Nat) (hb3 : b < 3) : ((m % 18446744073709551616).toNat).testBit b = hb m b := by
  rw [Nat.testBit_eq_decide_div_mod_eq, hb, Bool.eq_iff_iff]
  simp only [beq_iff_eq, decide_eq_true_eq]
  obtain rfl | rfl | rfl : b = 0 ∨ b = 1 ∨ b = 2 := by omega
  all_goals
    simp only [Nat.pow_zero, Nat.reducePow, Int.pow_zero, Int.reducePow]
    omega
theorem andNot_bit (m : Int) (b : Nat) (hb3 : b < 3) (hm : -9223372036854775808 ≤ m ∧ m < 9223372036854775808) : (bits .andNot .i64 m ((2 ^ b : Nat) : Int) != m) = hb m b := by
  have h2 : 2 ^ b < 2 ^ 3 := Nat.pow_lt_pow_right (by decide) hb3
  rw [andNot_nat m _ (Int.natCast_nonneg _) (by omega), Int.toNat_natCast, bne, wrap_inj Nat.and_le_left hm rfl, ← testBit_hb m b hb3]
  generalize hu : (m % 18446744073709551616).toNat = u
  have hu2 : u < 2 ^ 64 := by omega
  cases h : u.testBit b
  · rw [and_clear u b hu2 (by omega) h]; simp
  · rw [beq_false_of_ne (and_set u b (by omega) h)]; rfl

end Go.Proofs.Ytmhflifaeplalaa.BtA
