/-
  Contracts of the small functions on references and words of an operation: isZero, validRef, validWord of the model; isZero, isRef, isOptionalRef, isWord, isBlockKind of the program. For every argument; no condition.
-/
import Derived.Test.YtkkeaimoplkliaaStB
import Derived.Handy
namespace Go.Proofs.Ytkkeaimoplkliaa.OpA
open Go.RowKit Go.Proofs.Ytkkeaimoplkliaa.Base Go.Proofs.Ytkkeaimoplkliaa.St Go.Proofs.Ytkkeaimoplkliaa.StB

/-- A block of the call's own at n stands in the next world; so does what lay below it. -/
theorem nextW {n : Nat} {w W w1 : World} (hB : Below n w W) (hz : n < W.heap.size) (hb : Below W.heap.size W w1) :
    Below n w w1 ∧ n < w1.heap.size ∧ (∀ o, w1.cell? ⟨n, o, none⟩ = W.cell? ⟨n, o, none⟩) :=
  ⟨hB.trans (hb.mono (by omega)), by have := hb.size; omega, fun o => hb.cell (p := ⟨n, o, none⟩) hz⟩
theorem nextW2 {n : Nat} {w W w1 : World} (hB : Below n w W) (hz : n + 1 < W.heap.size) (hb : Below W.heap.size W w1) :
    Below n w w1 ∧ n + 1 < w1.heap.size ∧ (∀ o, w1.cell? ⟨n, o, none⟩ = W.cell? ⟨n, o, none⟩) ∧ (∀ o, w1.cell? ⟨n + 1, o, none⟩ = W.cell? ⟨n + 1, o, none⟩) :=
  ⟨hB.trans (hb.mono (by omega)), by have := hb.size; omega, fun o => hb.cell (p := ⟨n, o, none⟩) (by show n < _; omega), fun o => hb.cell (p := ⟨n + 1, o, none⟩) (by show n + 1 < _; omega)⟩

/-- The zero stamp. -/
def zst (s a : Int) : Bool := decide (s = 0) && decide (a = 0)
/-- A valid reference of an operation with the given ID; none: the zero stamp is let. -/
def vref (ids ida s a : Int) (none : Bool) : Bool := if zst s a then none else (vst s a && slt s a ids ida)

theorem spec_isZero (s a : Int) (w : World) :
    Calls Try.prog 86 #[.agg #[.int .i64 s, .int .i64 a]] w fun e w' => e = .returned (.bool (zst s a)) ∧ Below w.heap.size w w' := by
  by_cases h : s = 0
  · subst h
    by_cases h' : a = 0
    · subst h'
      go_enter Try.func86, Try.ntmps86
      go_wp2
      go_ret
      exact ⟨ret_bool (by simp [zst]), (Below.refl _ _).alloc (Nat.le_refl _) _⟩
    · have hne : (a == 0) = false := by simp [h']
      go_enter Try.func86, Try.ntmps86
      go_wp2
      go_ret
      exact ⟨ret_bool (by simp [zst, h']), (Below.refl _ _).alloc (Nat.le_refl _) _⟩
  · have hne : (s == 0) = false := by simp [h]
    go_enter Try.func86, Try.ntmps86
    go_wp2
    go_ret
    exact ⟨ret_bool (by simp [zst, h]), (Below.refl _ _).alloc (Nat.le_refl _) _⟩

theorem impl_isZero (s a : Int) (w : World) :
    Calls Try.prog 122 #[.agg #[.int .i64 s, .int .i64 a]] w fun e w' => e = .returned (.bool (zst s a)) ∧ Below w.heap.size w w' := by
  by_cases h : s = 0
  · subst h
    by_cases h' : a = 0
    · subst h'
      go_enter Try.func122, Try.ntmps122
      go_wp2
      go_ret
      exact ⟨ret_bool (by simp [zst]), (Below.refl _ _).alloc (Nat.le_refl _) _⟩
    · have hne : (a == 0) = false := by simp [h']
      go_enter Try.func122, Try.ntmps122
      go_wp2
      go_ret
      exact ⟨ret_bool (by simp [zst, h']), (Below.refl _ _).alloc (Nat.le_refl _) _⟩
  · have hne : (s == 0) = false := by simp [h]
    go_enter Try.func122, Try.ntmps122
    go_wp2
    go_ret
    exact ⟨ret_bool (by simp [zst, h]), (Below.refl _ _).alloc (Nat.le_refl _) _⟩

theorem impl_isRef (s a t b : Int) (w : World) :
    Calls Try.prog 129 #[.agg #[.int .i64 s, .int .i64 a], .agg #[.int .i64 t, .int .i64 b]] w fun e w' => e = .returned (.bool (vst s a && slt s a t b)) ∧ Below w.heap.size w w' := by
  have B0 : Below w.heap.size w ((w.alloc (.cells #[.int .i64 s, .int .i64 a] 28)).alloc (.cells #[.int .i64 t, .int .i64 b] 28)) := ((Below.refl _ _).alloc (Nat.le_refl _) _).alloc (by simp) _
  have hz0 : w.heap.size + 1 < ((w.alloc (.cells #[.int .i64 s, .int .i64 a] 28)).alloc (.cells #[.int .i64 t, .int .i64 b] 28)).heap.size := by simp
  cases h : vst s a
  all_goals
    go_enter Try.func129, Try.ntmps129
    go_wp2_with (first
      | (go_at_call 56; refine (impl_ValidStamp _ _ _).mono ?_; rintro e w1 ⟨rfl, hb1⟩; obtain ⟨B1, hz1, hc1, hd1⟩ := nextW2 B0 hz0 hb1)
      | (go_at_call 130; refine (impl_StampLess _ _ _ _ _).mono ?_; rintro e w2 ⟨rfl, hb2⟩; obtain ⟨B2, hz2, hc2, hd2⟩ := nextW2 B1 hz1 hb2))
    go_ret
    first | exact ⟨ret_bool (by simp), B1⟩ | exact ⟨ret_bool (by simp), B2⟩

theorem impl_isOptionalRef (s a t b : Int) (w : World) :
    Calls Try.prog 128 #[.agg #[.int .i64 s, .int .i64 a], .agg #[.int .i64 t, .int .i64 b]] w fun e w' => e = .returned (.bool (vref t b s a true)) ∧ Below w.heap.size w w' := by
  have B0 : Below w.heap.size w ((w.alloc (.cells #[.int .i64 s, .int .i64 a] 28)).alloc (.cells #[.int .i64 t, .int .i64 b] 28)) := ((Below.refl _ _).alloc (Nat.le_refl _) _).alloc (by simp) _
  have hz0 : w.heap.size + 1 < ((w.alloc (.cells #[.int .i64 s, .int .i64 a] 28)).alloc (.cells #[.int .i64 t, .int .i64 b] 28)).heap.size := by simp
  cases h : zst s a
  all_goals
    go_enter Try.func128, Try.ntmps128
    go_wp2_with (first
      | (go_at_call 122; refine (impl_isZero _ _ _).mono ?_; rintro e w1 ⟨rfl, hb1⟩; obtain ⟨B1, hz1, hc1, hd1⟩ := nextW2 B0 hz0 hb1)
      | (go_at_call 129; refine (impl_isRef _ _ _ _ _).mono ?_; rintro e w2 ⟨rfl, hb2⟩; obtain ⟨B2, hz2, hc2, hd2⟩ := nextW2 B1 hz1 hb2))
    go_ret
    first | exact ⟨ret_bool (by simp [vref, h]), B1⟩ | exact ⟨ret_bool (by simp [vref, h]), B2⟩

theorem impl_isBlockKind (n : Int) (w : World) :
    Calls Try.prog 143 #[.int .i64 n] w fun e w' => e = .returned (.bool (inR n 1 4)) ∧ w = w' := by
  go_enter Try.func143, Try.ntmps143
  go_wp2_with (go_at_call 89; refine (impl_inRange _ _ _ _).mono ?_; rintro e w' ⟨rfl, rfl⟩)
  go_ret
  exact ⟨rfl, rfl⟩

end Go.Proofs.Ytkkeaimoplkliaa.OpA
