/-
  RunsText of the program and of the model: the texts of the runs, one behind the other. For slices that read as a list of at most 2^20 runs with at most 2^20 bytes together.
-/
import Derived.Test.YtmhflifaeplalaaGrB
import Derived.Test.YtmhflifaeplalaaSbA
import Derived.Outline
namespace Go.Proofs.Ytmhflifaeplalaa.RtA
open Go.RowKit Go.Proofs.Ytmhflifaeplalaa.Base Go.Proofs.Ytmhflifaeplalaa.GsA Go.Proofs.Ytmhflifaeplalaa.GrB Go.Proofs.Ytmhflifaeplalaa.SbA
set_option linter.unusedVariables false

/-- The first k texts, one behind the other. -/
def catB (xs : List RunV) : Nat → ByteArray
  | 0 => ByteArray.empty
  | k + 1 => catB xs k ++ (xs.getD k zRun).tx
theorem catB_size (xs : List RunV) (k : Nat) : (catB xs k).size = txs xs k := by
  induction k with
  | zero => rfl
  | succ k ih => rw [catB, txs, ByteArray.size_append, ih]
theorem txs_le (xs : List RunV) {k n : Nat} (h : k ≤ n) : txs xs k ≤ txs xs n := by
  induction n with
  | zero => have : k = 0 := by omega
            subst this; exact Nat.le_refl _
  | succ n ih =>
    by_cases e : k = n + 1
    · subst e; exact Nat.le_refl _
    · have := ih (by omega)
      rw [show txs xs (n + 1) = txs xs n + (xs.getD n zRun).tx.size from rfl]
      omega

set_option maxRecDepth 100000 in
theorem spec_RunsText (a : Option Addr) (c : Nat) (xs : List RunV) (w : World) (hr : RdG ERun w a xs) (hl : xs.length ≤ 1048576) (ht : txs xs xs.length ≤ 1048576) :
    Calls Try.prog 23 #[.slice a xs.length c] w fun e w' => e = .returned (.string (catB xs xs.length)) ∧ Below w.heap.size w w' := by
  have HT := Lib.hid (fun k (h : k ≤ xs.length) => Nat.le_trans (txs_le xs h) ht)
  clear ht
  rcases hr with rfl | ⟨b, off, rfl, hc⟩
  · go_enter Try.func23, Try.ntmps23
    go_wp2
    go_rounds 1
    go_ret
    exact ⟨rfl, Below.refl _ _⟩
  · have HC := Lib.hid hc
    clear hc
    go_enter Try.func23, Try.ntmps23
    go_wp2
    go_loop [3, 4] (fun s i => ∃ k : Nat, k ≤ xs.length ∧ i = .int .i64 k ∧ s = .string (catB xs k)) (fun _ i => xs.length - (intOf i).toNat)
    case atStart => exact ⟨0, Nat.zero_le _, rfl, rfl⟩
    case round =>
      obtain ⟨k, hk, rfl, rfl⟩ := hrel
      by_cases hlt : k < xs.length
      · obtain ⟨x, hx⟩ : ∃ x, x = xs.getD k zRun := ⟨_, rfl⟩
        have hr : w.rangeAt b (off + k * 2) (ERun.L x) := by rw [hx]; exact HC.out k hlt
        obtain ⟨c0, c1⟩ := cRun hr
        have hs := HT.out k hk
        have hs2 := HT.out (k + 1) hlt
        rw [← catB_size] at hs hs2
        have hcat : catB xs (k + 1) = catB xs k ++ x.tx := by rw [hx]; rfl
        rw [hcat, ByteArray.size_append] at hs2
        have HCat := Lib.hid hcat
        generalize catB xs k = s at hs hs2 HCat
        clear hcat hx hr
        go_wp2
        go_round
        case rel => exact ⟨k + 1, by omega, by go_num, by rw [HCat.out]⟩
        case measure => simp [intOf]; omega
      · obtain rfl : k = xs.length := by omega
        go_wp2
        go_ret
        exact ⟨rfl, Below.refl _ _⟩

set_option maxRecDepth 100000 in
theorem impl_RunsText (a : Option Addr) (c : Nat) (xs : List RunV) (w : World) (hr : RdG ERun w a xs) (hl : xs.length ≤ 1048576) (ht : txs xs xs.length ≤ 1048576) :
    Calls Try.prog 25 #[.slice a xs.length c] w fun e w' => e = .returned (.string (catB xs xs.length)) ∧ Below w.heap.size w w' := by
  have HT := Lib.hid (fun k (h : k ≤ xs.length) => Nat.le_trans (txs_le xs h) ht)
  have HR := Lib.hid hr
  clear ht hr
  have HN := Lib.hid (SB.new 86 [] w)
  go_enter Try.func25, Try.ntmps25
  go_wp2
  go_loopw [8] (fun i wr => ∃ k : Nat, k ≤ xs.length ∧ i = .int .i64 k ∧ SB 86 [] w.heap.size w.heap.size (Lib.byteCells (catB xs k).data.toList) wr ∧ Below w.heap.size w wr) (fun i _ => xs.length - (intOf i).toNat)
  case atStart => exact ⟨0, Nat.zero_le _, rfl, HN.out, (Below.refl _ _).alloc (Nat.le_refl _) _⟩
  case round =>
    obtain ⟨k, hk, rfl, hsb, hnx⟩ := hrel
    by_cases hlt : k < xs.length
    · rcases HR.out with h0 | ⟨b, off, rfl, hc⟩
      · rw [h0] at hlt
        cases hlt
      obtain ⟨x, hx⟩ : ∃ x, x = xs.getD k zRun := ⟨_, rfl⟩
      have HRg := Lib.hid (by rw [hx]; exact rangeAt_below (hc k hlt) hnx (rangeAt_ltG ERun (hc k hlt)) : wr.rangeAt b (off + k * 2) (ERun.L x))
      have hs2 := HT.out (k + 1) hlt
      rw [← catB_size] at hs2
      have hcat : catB xs (k + 1) = catB xs k ++ x.tx := by rw [hx]; rfl
      rw [hcat, ByteArray.size_append] at hs2
      have HCat := Lib.hid hcat
      generalize catB xs k = s at hs2 HCat hsb
      clear hcat hx hc
      have hz := hsb.lt
      have hsb1 := hsb.below ((Below.refl _ _).alloc (Nat.le_refl _) (.cells #[.int .i64 x.m, .string x.tx] 82))
      have HW := Lib.hid (writeStringB w.heap.size w.heap.size _ x.tx _ hsb1 (by rw [Lib.byteCells_length, Array.length_toList]; have : s.data.size = s.size := rfl; omega) (by simp; omega))
      clear hsb hsb1
      go_wp2_with (refine load_iRun rfl _ rfl rfl HRg.out ?_)
      refine HW.out.mono ?_
      rintro e w1 ⟨rfl, hsb2, hb1, _⟩
      go_wp2
      go_roundw
      case rel => exact ⟨k + 1, by omega, by go_num, hsb2.bytes (by rw [HCat.out]; simp [Lib.byteCells, Lib.strCells]), (hnx.alloc (by omega) _).trans hb1⟩
      case measure => simp [intOf]; omega
    · obtain rfl : k = xs.length := by omega
      have HS := Lib.hid (stringB w.heap.size w.heap.size _ wr hsb (by have := hsb.lt; omega))
      clear hsb
      go_wp2_with fail
      refine HS.out.mono ?_
      rintro e w1 ⟨rfl, hb1⟩
      go_wp2
      go_ret
      exact ⟨rfl, hnx.trans hb1⟩

end Go.Proofs.Ytmhflifaeplalaa.RtA
