/-
  heldOpS of the exact laws: it finds the marks in a row of operations that bears them. For rows of at most 2^20 operations and marks up to 2^39. markOpS and heldOpS at nil, too.
-/
import Derived.Test.YtkkeaimoplkliaaLgN
import Derived.Test.YtkkeaimoplkliaaLgF
import Derived.Outline
namespace Go.Proofs.Ytkkeaimoplkliaa.LgO
open Go.RowKit Go.Proofs.Ytkkeaimoplkliaa.Base Go.Proofs.Ytkkeaimoplkliaa.St Go.Proofs.Ytkkeaimoplkliaa.StB Go.Proofs.Ytkkeaimoplkliaa.OpA Go.Proofs.Ytkkeaimoplkliaa.OpB Go.Proofs.Ytkkeaimoplkliaa.LgA Go.Proofs.Ytkkeaimoplkliaa.LgB Go.Proofs.Ytkkeaimoplkliaa.LgC Go.Proofs.Ytkkeaimoplkliaa.LgF Go.Proofs.Ytkkeaimoplkliaa.LgM Go.Proofs.Ytkkeaimoplkliaa.LgN
set_option linter.unusedVariables false
attribute [local go_sem ↓] Go.wp_at_zero Go.wp_at_succ
attribute [local irreducible] Go.wpQuiet

set_option maxRecDepth 1000000 in
set_option maxHeartbeats 2000000 in
theorem heldOpS1 (b c n : Nat) (q0 : Nat) (w : World) (hown : OwnO w b c n (fun i => mk (q0 + 12 * i))) (hn : n ≤ 1048576) (hq0 : 1 ≤ q0) (hq : q0 ≤ 549755813888) :
    Calls Try.prog 27 #[.slice (some ⟨b, 0, none⟩) n c, .int .i64 q0] w fun e w' => e = .returned (.int .i64 ((q0 + 12 * n : Nat) : Int)) ∧ Below w.heap.size w w' := by
  have HO := Lib.hid hown
  clear hown
  go_enter Try.func27, Try.ntmps27
  go_wp2
  go_loopw [1, 5] (fun s i wr => ∃ (j q : Nat), j ≤ n ∧ i = .int .i64 j ∧ Hid (q = q0 + 12 * j) ∧ s = .int .i64 q ∧ Below w.heap.size w wr) (fun _ i _ => n - (intOf i).toNat)
  case atStart => exact ⟨0, q0, Nat.zero_le _, rfl, rfl, rfl, Below.refl _ _⟩
  case round =>
    obtain ⟨j, q, hj, rfl, hqe, rfl, hnx⟩ := hrel
    by_cases hlt : j < n
    · have hqb : 1 ≤ q ∧ q ≤ 549768396800 := by have := hqe.out; omega
      obtain ⟨hq1, hq2⟩ := hqb
      have hown := HO.out.below hnx
      have hnc := hown.le
      have hr : wr.rangeAt b (j * 12) (opL (mk q)) := by rw [hqe.out]; exact hown.range hlt
      have hbl : b < wr.heap.size := hown.lt
      have c0 : wr.cell? ⟨b, j * 12, none⟩ = some (.int .i64 (q : Int)) := rangeAt_cell hr 0 (by omega)
      have c1 : wr.cell? ⟨b, j * 12 + 1, none⟩ = some (.int .i64 ((q : Int) + 1)) := rangeAt_cell hr 1 (by omega)
      have c2 : wr.cell? ⟨b, j * 12 + 2, none⟩ = some (.int .i64 ((q : Int) + 2)) := rangeAt_cell hr 2 (by omega)
      have c3 : wr.cell? ⟨b, j * 12 + 3, none⟩ = some (.int .i64 ((q : Int) + 3)) := rangeAt_cell hr 3 (by omega)
      have c4 : wr.cell? ⟨b, j * 12 + 4, none⟩ = some (.int .i64 ((q : Int) + 4)) := rangeAt_cell hr 4 (by omega)
      have d4 : wr.cell? ⟨b, j * 12 + 3 + 1, none⟩ = some (.int .i64 ((q : Int) + 4)) := c4
      have c5 : wr.cell? ⟨b, j * 12 + 5, none⟩ = some (.int .i64 ((q : Int) + 5)) := rangeAt_cell hr 5 (by omega)
      have c6 : wr.cell? ⟨b, j * 12 + 6, none⟩ = some (.int .i64 ((q : Int) + 6)) := rangeAt_cell hr 6 (by omega)
      have d6 : wr.cell? ⟨b, j * 12 + 5 + 1, none⟩ = some (.int .i64 ((q : Int) + 6)) := c6
      have c7 : wr.cell? ⟨b, j * 12 + 7, none⟩ = some (.int .i64 ((q : Int) + 7)) := rangeAt_cell hr 7 (by omega)
      have c8 : wr.cell? ⟨b, j * 12 + 8, none⟩ = some (.int .i64 ((q : Int) + 8)) := rangeAt_cell hr 8 (by omega)
      have d8 : wr.cell? ⟨b, j * 12 + 7 + 1, none⟩ = some (.int .i64 ((q : Int) + 8)) := c8
      have c9 : wr.cell? ⟨b, j * 12 + 9, none⟩ = some (.int .i64 ((q : Int) + 9)) := rangeAt_cell hr 9 (by omega)
      have c10 : wr.cell? ⟨b, j * 12 + 10, none⟩ = some (.bool (((q : Int) + 10) % 3 == 0)) := rangeAt_cell hr 10 (by omega)
      have e10 : ((q : Int) + 10) = (q : Int) + 1 + 1 + 1 + 1 + 1 + 1 + 1 + 1 + 1 + 1 := by omega
      rw [e10] at c10
      clear e10
      have c11 : wr.cell? ⟨b, j * 12 + 11, none⟩ = some (.string (mtx (q + 11))) := rangeAt_cell hr 11 (by omega)
      have C11 := Lib.hid c11
      have hj0 : (0 : Int) ≤ (j : Int) := Int.natCast_nonneg _
      have hj1 : (j : Int) < (n : Int) := by omega
      clear hr hown hq c11
      go_wp2
      have hB0 : Below wr.heap.size wr wr.drew := (Below.refl _ _).drew
      clear c0 c1 c2 c3 c4 c5 c6 c7 c8 c9 c10 d4 d6 d8
      refine region_lit (C := fun W => Below wr.heap.size wr W) (by kernel_rfl) (by kernel_rfl) hB0 ?_
      repeat (
        first
          | (refine wpQuiet_step (fun K hK => ?_)
             go_simp
             first
               | (refine hK _ ?_; clear hK K)
               | (apply Exists.intro
                  refine ⟨fun W hW => ?_, hK _ ?_⟩
                  · have p11 := (hW.cell (p := ⟨b, j * 12 + 11, none⟩) hbl).trans C11.out
                    first
                      | (go_simp; exact rfl)
                      | (go_simp; exact ⟨rfl, rfl⟩)
                      | with_reducible exact (markText' _ (q + 11) (by omega) (by omega) (by omega) _).mono (fun e wn ⟨he, hbn⟩ => ⟨he, hW.trans (hbn.mono hW.size)⟩)
                      | with_reducible exact ⟨rfl, (markText' _ (q + 11) (by omega) (by omega) (by omega) _).mono (fun e wn ⟨he, hbn⟩ => ⟨he, hW.trans (hbn.mono hW.size)⟩)⟩
                  clear hK K)))
      refine wpQuiet_nil ?_
      intro W hW
      go_wp2
      go_roundw
      case rel => exact ⟨j + 1, q + 12, by omega, by go_num, by have h := hqe.out; show q + 12 = q0 + 12 * (j + 1); omega, by first | rfl | go_num, hnx.trans (hW.mono hnx.size)⟩
      case measure => simp [intOf]; omega
    · obtain rfl : j = n := by omega
      go_wp2
      go_ret
      exact ⟨ret_int (by have h := hqe.out; omega), hnx⟩

theorem markOpS_none (c q0 : Nat) (w : World) : Calls Try.prog 26 #[.slice none 0 c, .int .i64 q0] w fun e w' => e = .returned (.int .i64 q0) ∧ w = w' := by
  go_enter Try.func26, Try.ntmps26
  go_wp2
  go_rounds 1
  go_ret
  exact ⟨rfl, rfl⟩
theorem heldOpS_none (c q0 : Nat) (w : World) : Calls Try.prog 27 #[.slice none 0 c, .int .i64 q0] w fun e w' => e = .returned (.int .i64 q0) ∧ w = w' := by
  go_enter Try.func27, Try.ntmps27
  go_wp2
  go_rounds 1
  go_ret
  exact ⟨rfl, rfl⟩

/-- Both, at a slice that is nil or of the call's own. -/
theorem markRow (lo : Nat) (a : Option Addr) (c n : Nat) (f : Nat → OpV) (q0 : Nat) (w : World) (hr : RowO lo w a c n f) (hn : n ≤ 1048576) (hq0 : 1 ≤ q0) (hq : q0 ≤ 549755813888) :
    Calls Try.prog 26 #[.slice a n c, .int .i64 q0] w fun e w' => e = .returned (.int .i64 ((q0 + 12 * n : Nat) : Int)) ∧ RowO lo w' a c n (fun i => mk (q0 + 12 * i)) ∧ w.grownBy w' (blkA a) := by
  rcases hr with ⟨rfl, rfl⟩ | ⟨b, rfl, hlo, hown⟩
  · refine (markOpS_none c q0 w).mono ?_
    rintro e w' ⟨rfl, rfl⟩
    exact ⟨rfl, .inl ⟨rfl, rfl⟩, World.grownBy.refl _ _⟩
  · refine (markOpS b c n f q0 w hown hn hq0 hq).mono ?_
    rintro e w' ⟨rfl, h1, h2⟩
    exact ⟨rfl, .inr ⟨b, rfl, hlo, h1⟩, h2⟩
theorem heldRow (lo : Nat) (a : Option Addr) (c n : Nat) (q0 : Nat) (w : World) (hr : RowO lo w a c n (fun i => mk (q0 + 12 * i))) (hn : n ≤ 1048576) (hq0 : 1 ≤ q0) (hq : q0 ≤ 549755813888) :
    Calls Try.prog 27 #[.slice a n c, .int .i64 q0] w fun e w' => e = .returned (.int .i64 ((q0 + 12 * n : Nat) : Int)) ∧ Below w.heap.size w w' := by
  rcases hr with ⟨rfl, rfl⟩ | ⟨b, rfl, hlo, hown⟩
  · refine (heldOpS_none c q0 w).mono ?_
    rintro e w' ⟨rfl, rfl⟩
    exact ⟨rfl, Below.refl _ _⟩
  · exact heldOpS1 b c n q0 w hown hn hq0 hq

end Go.Proofs.Ytkkeaimoplkliaa.LgO
