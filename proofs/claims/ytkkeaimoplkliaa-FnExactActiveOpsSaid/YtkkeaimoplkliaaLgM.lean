/-
  markText of the exact laws: the text of a mark. For numbers from 1 to 2^40.
-/
import Derived.Test.YtkkeaimoplkliaaLgC
import Derived.Laws.BytesArg
import Derived.Outline
namespace Go.Proofs.Ytkkeaimoplkliaa.LgM
open Go.RowKit Go.Proofs.Ytkkeaimoplkliaa.Base Go.Proofs.Ytkkeaimoplkliaa.St Go.Proofs.Ytkkeaimoplkliaa.StB Go.Proofs.Ytkkeaimoplkliaa.OpA Go.Proofs.Ytkkeaimoplkliaa.OpB Go.Proofs.Ytkkeaimoplkliaa.LgA Go.Proofs.Ytkkeaimoplkliaa.LgB Go.Proofs.Ytkkeaimoplkliaa.LgC
set_option linter.unusedVariables false

/-- One byte, laid in a slice of its own, as a text. -/
theorem conv1 (b : Nat) (m : Int) (W : World) (h : W.cell? ⟨b, 0, none⟩ = some (.int .u8 m)) :
    (convert 57 9 (.slice (some ⟨b, 0, none⟩) 1 1)).run Try.prog W = .ok (.string (strOfNums [m])) W := by
  have hcell : ∀ i, i < 1 → W.cell? ⟨b, 0 + i, none⟩ = some (.int .u8 ([m].getD i 0)) := fun i hi => by
    have h0 : i = 0 := by omega
    rw [h0]
    exact h
  exact run_convert_bytes_arg W 57 5 Try.underlying57 Try.underlying5 b 0 1 1 [m] rfl hcell 9 Try.underlying9
attribute [local go_sem] conv1

/-- The byte of a number's last digit, as the program reckons it. -/
def lastB (n : Nat) : ByteArray := strOfNums [48 + (n : Int) % 10]
theorem lastB_size (n : Nat) : (lastB n).size = 1 := by unfold lastB; rw [strOfNums_size]; rfl
/-- The digits of a number as a text, with fuel. -/
def digB : Nat → Nat → ByteArray
  | 0, _ => ByteArray.empty
  | f + 1, n => if n = 0 then ByteArray.empty else digB f (n / 10) ++ lastB n
theorem digB_fuel : ∀ (f g n : Nat), n ≤ f → n ≤ g → digB f n = digB g n
  | 0, 0, n, _, _ => rfl
  | 0, g + 1, n, h, _ => by
      have : n = 0 := by omega
      subst this
      simp [digB]
  | f + 1, 0, n, _, h => by
      have : n = 0 := by omega
      subst this
      simp [digB]
  | f + 1, g + 1, n, h, h' => by
      unfold digB
      by_cases h0 : n = 0
      · simp [h0]
      · rw [if_neg h0, if_neg h0, digB_fuel f g (n / 10) (by omega) (by omega)]
/-- The text that marks number n. -/
def mtx (n : Nat) : ByteArray := ⟨#[109]⟩ ++ digB n n
theorem digB_step (n : Nat) (h : n ≠ 0) : digB n n = digB (n / 10) (n / 10) ++ lastB n := by
  obtain ⟨m, rfl⟩ : ∃ m, n = m + 1 := ⟨n - 1, by omega⟩
  rw [digB, if_neg h, digB_fuel m ((m + 1) / 10) ((m + 1) / 10) (by omega) (Nat.le_refl _)]

/-- A text of bounded size and a byte are no great text. -/
theorem addByte (a : ByteArray) (h : a.size ≤ 1099511627776) (m : Int) : (9223372036854775807 < (strOfNums [m]).size + a.size) = False := by
  rw [strOfNums_size]
  simp
  omega
theorem addOne (a : ByteArray) (h : a.size ≤ 1099511627776) : (9223372036854775807 < ({ data := #[109] } : ByteArray).size + a.size) = False := by
  have : ({ data := #[109] } : ByteArray).size = 1 := rfl
  rw [this]
  simp
  omega

set_option maxRecDepth 100000 in
theorem markText (n : Nat) (h0 : 1 ≤ n) (h1 : n ≤ 1099511627776) (w : World) :
    Calls Try.prog 64 #[.int .i64 n] w fun e w' => e = .returned (.string (mtx n)) ∧ Below w.heap.size w w' := by
  have hp : ¬ (n : Int) ≤ 0 := by omega
  go_enter Try.func64, Try.ntmps64
  go_wp2
  go_loopw [0, 3] (fun q s wr => ∃ (m : Nat) (o : ByteArray), m ≤ n ∧ q = .int .i64 m ∧ s = .string o ∧ Hid (digB m m ++ o = digB n n) ∧ o.size + m ≤ n ∧ Below w.heap.size w wr) (fun q _ _ => (intOf q).toNat)
  case atStart => exact ⟨n, ByteArray.empty, Nat.le_refl _, rfl, rfl, by simp [Hid], by simp, Below.refl _ _⟩
  case round =>
    obtain ⟨m, o, hm, rfl, rfl, hd, hsz, hnx⟩ := hrel
    have ha := addByte o (by omega)
    have ha1 := addOne o (by omega)
    by_cases hz : m = 0
    · subst hz
      go_wp2
      go_ret
      have hd := hd.out
      have h0 : digB 0 0 ++ o = o := by simp [digB]
      rw [h0] at hd
      exact ⟨by rw [mtx, ← hd]; rfl, hnx⟩
    · have hpos : (0 : Int) < (m : Int) := by omega
      have hposn : 0 < m := by omega
      go_wp2
      go_roundw
      case rel =>
        refine ⟨m / 10, strOfNums [48 + (m : Int) % 10] ++ o, by omega, by rw [show ((m / 10 : Nat) : Int) = (m : Int) / 10 by omega], rfl, ?_, ?_, hnx.alloc hnx.size _⟩
        · have hd := hd.out
          rw [digB_step m hz, ByteArray.append_assoc] at hd
          exact hd
        · rw [ByteArray.size_append, strOfNums_size]
          simp
          omega
      case measure => simp [intOf]; omega

end Go.Proofs.Ytkkeaimoplkliaa.LgM
