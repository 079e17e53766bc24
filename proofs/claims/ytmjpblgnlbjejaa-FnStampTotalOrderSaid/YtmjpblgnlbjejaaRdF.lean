/-
  The walk of the law FnStampTotalOrder: it returns true, whatever the bytes. No condition.
-/
import Derived.Test.YtmjpblgnlbjejaaRdE
import Derived.Test.YtmjpblgnlbjejaaStB
import Derived.Deep.DrawnRows
import Derived.Deep.QuietTactic
namespace Go.Proofs.Ytmjpblgnlbjejaa.RdF
open Go.RowKit Go.Proofs.Ytmjpblgnlbjejaa.Base Go.Proofs.Ytmjpblgnlbjejaa.StB Go.Proofs.Ytmjpblgnlbjejaa.RdA Go.Proofs.Ytmjpblgnlbjejaa.RdB Go.Proofs.Ytmjpblgnlbjejaa.RdC Go.Proofs.Ytmjpblgnlbjejaa.RdD Go.Proofs.Ytmjpblgnlbjejaa.RdE

attribute [local go_sem ↓] Go.wp_at_zero Go.wp_at_succ

theorem bxBelow {k : Nat} {s t : Int} {W W' : World} (h : Bx k s t W) (hb : Below W.heap.size W W') : Bx k s t W' := h.wr (R := W.heap.size) (.of_below hb) (by have := h.1; omega)
/-- The three stamps that the law compares, in boxes of its own. -/
def St3 (w : World) (i j k : Nat) (s t u v x y : Int) (W : World) : Prop := Below w.heap.size w W ∧ w.heap.size ≤ W.heap.size ∧ Bx i s t W ∧ Bx j u v W ∧ Bx k x y W
theorem St3.next {w : World} {i j k : Nat} {s t u v x y : Int} {W W' : World} (h : St3 w i j k s t u v x y W) (hb : Below W.heap.size W W') : St3 w i j k s t u v x y W' := by
  obtain ⟨h0, h1, h2, h3, h4⟩ := h
  exact ⟨h0.trans (hb.mono h1), Nat.le_trans h1 hb.size, bxBelow h2 hb, bxBelow h3 hb, bxBelow h4 hb⟩
theorem St3.cells {w : World} {i j k : Nat} {s t u v x y : Int} {W : World} (h : St3 w i j k s t u v x y W) :
    W.cell? ⟨i, 0, none⟩ = some (.int .i64 s) ∧ W.cell? ⟨i, 1, none⟩ = some (.int .i64 t) ∧ W.cell? ⟨j, 0, none⟩ = some (.int .i64 u) ∧ W.cell? ⟨j, 1, none⟩ = some (.int .i64 v) ∧ W.cell? ⟨k, 0, none⟩ = some (.int .i64 x) ∧ W.cell? ⟨k, 1, none⟩ = some (.int .i64 y) := by
  obtain ⟨_, _, ⟨_, a1, a2⟩, ⟨_, b1, b2⟩, ⟨_, c1, c2⟩⟩ := h
  exact ⟨a1, a2, b1, b2, c1, c2⟩

theorem impL (s a t b : Int) (c : Bool) (h : slt s a t b = c) (w : World) :
    Calls Try.prog 17 #[.agg #[.int .i64 s, .int .i64 a], .agg #[.int .i64 t, .int .i64 b]] w fun e w' => e = .returned (.bool c) ∧ Below w.heap.size w w' := h ▸ impl_StampLess s a t b w
theorem specL (s a t b : Int) (c : Bool) (h : slt s a t b = c) (w : World) :
    Calls Try.prog 16 #[.agg #[.int .i64 s, .int .i64 a], .agg #[.int .i64 t, .int .i64 b]] w fun e w' => e = .returned (.bool c) ∧ Below w.heap.size w w' := h ▸ spec_StampLess s a t b w
theorem St3.b {w : World} {i j k : Nat} {s t u v x y : Int} {W : World} (h : St3 w i j k s t u v x y W) : Below w.heap.size w W := h.1
theorem St3.d {w : World} {i j k : Nat} {s t u v x y : Int} {W : World} (h : St3 w i j k s t u v x y W) : St3 w i j k s t u v x y W.drew :=
  ⟨h.1.drew, h.2.1, ⟨h.2.2.1.1, h.2.2.1.2.1, h.2.2.1.2.2⟩, ⟨h.2.2.2.1.1, h.2.2.2.1.2.1, h.2.2.2.1.2.2⟩, ⟨h.2.2.2.2.1, h.2.2.2.2.2.1, h.2.2.2.2.2.2⟩⟩
theorem slt_asymm {s t u v : Int} (h : slt s t u v = true) : slt u v s t = false := by
  simp [slt] at h ⊢
  omega
theorem slt_eq {s t u v : Int} (h : slt s t u v = false) (h' : slt u v s t = false) : u = s ∧ v = t := by
  simp [slt] at h h'
  omega
theorem slt_trans {s t u v x y : Int} (h : slt s t u v = true) (h' : slt u v x y = true) : slt s t x y = true := by
  simp [slt] at h h' ⊢
  omega
theorem region_lit {P : Program} {C : World → Prop} {id : Nat} {Q : Exit → Act → World → Prop} {a : Act} {w : World} {l : List Oper} (hm : P.follows .mixedOrders = true) (hB : Region.lexB .any l.toArray = true)
    (hC : C w.drew) (h : wpQuiet P l.toArray C (fun a' => ∀ w', C w' → Q .normal a' w') l a) : (Code.region id l.toArray true).wp P Q a w :=
  wp_region_quiet (C := C) hm hB hC (by simpa using h)
theorem slt_self (s a : Int) : slt s a s a = false := by simp [slt]

theorem two (w : World) (s t u v : Int) (T : TypeId) :
    Bx w.heap.size s t ((w.alloc (.cells #[.int .i64 s, .int .i64 t] T)).alloc (.cells #[.int .i64 u, .int .i64 v] T)) ∧ Bx (w.heap.size + 1) u v ((w.alloc (.cells #[.int .i64 s, .int .i64 t] T)).alloc (.cells #[.int .i64 u, .int .i64 v] T)) ∧
      Below w.heap.size w ((w.alloc (.cells #[.int .i64 s, .int .i64 t] T)).alloc (.cells #[.int .i64 u, .int .i64 v] T)) :=
  ⟨⟨by simp; omega, by simp [go_sem], by simp [go_sem]⟩, ⟨by simp, by simp [go_sem], by simp [go_sem]⟩, ((Below.refl _ _).alloc (Nat.le_refl _) _).alloc (by simp) _⟩

theorem slt_ne {s t v : Int} (h : slt s t s v = true) : t ≠ v := by
  intro e
  rw [e, slt_self] at h
  cases h
theorem slt_ne' {s t v : Int} (h : slt s v s t = true) : t ≠ v := fun e => slt_ne h e.symm

set_option maxHeartbeats 4000000 in
theorem walk (a0 : Option Addr) (len0 cap0 : Nat) (z0 : List Int) (a1 : Option Addr) (len1 cap1 : Nat) (z1 : List Int) (w : World) (r0 : IsRow .u8 w a0 len0 cap0 z0) (r1 : IsRow .u8 w a1 len1 cap1 z1) :
    Calls Try.prog 5 #[.slice a0 len0 cap0, .slice a1 len1 cap1] w fun e w' => e = .returned (.bool true) ∧ Below w.heap.size w w' := by
  obtain ⟨xs, rfl, hx, rx⟩ := bytes_rd r0
  obtain ⟨ys, rfl, hy, ry⟩ := bytes_rd r1
  clear r0 r1
  by_cases l0 : (1048576 : Int) < (xs.length : Int)
  · clear rx ry
    go_enter Try.func5, Try.ntmps5
    go_wp2
    go_ret
    exact ⟨rfl, Below.refl _ _⟩
  by_cases l1 : (1048576 : Int) < (ys.length : Int)
  · clear rx ry
    go_enter Try.func5, Try.ntmps5
    go_wp2
    go_ret
    exact ⟨rfl, Below.refl _ _⟩
  have RX := Lib.hid rx
  have RY := Lib.hid ry
  clear rx ry
  go_enter Try.func5, Try.ntmps5
  go_wp2_with fail
  refine (drawStampLess a0 cap0 xs _ RX.out hx).mono ?_
  rintro e w1 ⟨⟨s, t, u, v, rfl⟩, b1⟩
  obtain ⟨p5, p6, b2⟩ := two w1 s t u v 25
  have B2 := b1.trans (b2.mono b1.size)
  have ry1 := rdb_below (rdb_below RY.out b1) b2
  have HD := Lib.hid (drawStampLess a1 cap1 ys _ ry1 hy)
  have z2 := b2.size
  have P5 := Lib.hid p5
  have P6 := Lib.hid p6
  have Z1 := b1.size
  clear b1 b2 ry1 p5 p6
  go_wp2_with fail
  refine HD.out.mono ?_
  rintro e w2 ⟨⟨x, y, x', y', rfl⟩, b3⟩
  obtain ⟨p7, _, b4⟩ := two w2 x y x' y' 25
  have T3 : St3 w w1.heap.size (w1.heap.size + 1) w2.heap.size s t u v x y ((w2.alloc (.cells #[.int .i64 x, .int .i64 y] 25)).alloc (.cells #[.int .i64 x', .int .i64 y'] 25)) := by
    have Z3 := b3.size
    have B3 := B2.trans (b3.mono (by omega))
    have B4 := B3.trans (b4.mono (by omega))
    exact ⟨B4, by have := b4.size; omega, bxBelow (bxBelow P5.out b3) b4, bxBelow (bxBelow P6.out b3) b4, p7⟩
  clear b3 b4 p7 B2 P5 P6 HD z2 Z1
  obtain ⟨l, hl⟩ : ∃ l, slt s t u v = l := ⟨_, rfl⟩
  have HI := Lib.hid (impL s t u v l hl)
  have HS := Lib.hid (specL s t u v l hl)
  obtain ⟨c50, c51, c60, c61, c70, c71⟩ := T3.cells
  go_wp2_with fail
  refine (HI.out _).mono ?_
  rintro e w3 ⟨rfl, hb3⟩
  have T4 := T3.next hb3
  clear T3 hb3 c50 c51 c60 c61 c70 c71
  obtain ⟨c50, c51, c60, c61, c70, c71⟩ := T4.cells
  go_wp2_with fail
  refine (HS.out _).mono ?_
  rintro e w4 ⟨rfl, hb4⟩
  have T5 := T4.next hb4
  clear T4 hb4 c50 c51 c60 c61 c70 c71
  obtain ⟨c50, c51, c60, c61, c70, c71⟩ := T5.cells
  have T6 := T5.d
  clear HI HS RX RY l0 l1 hx hy
  have haa := slt_self s t
  cases l
  · cases hba : slt u v s t
    · obtain ⟨rfl, rfl⟩ := slt_eq hl hba
      go_wp2_with fail
      refine region_lit (C := fun W => St3 w w1.heap.size (w1.heap.size + 1) w2.heap.size u v u v x y W) (by kernel_rfl) (by kernel_rfl) T6 ?_
      clear c50 c51 c60 c61 c70 c71 T5 T6
      repeat (
        refine wpQuiet_step (fun K hK => ?_)
        go_simp
        first
          | (refine hK _ ?_; clear hK K)
          | (apply Exists.intro
             refine ⟨fun W hW => ?_, hK _ ?_⟩
             · obtain ⟨q0, q1, q2, q3, q4, q5⟩ := hW.cells
               first
                 | (go_simp; exact rfl)
                 | (go_simp; exact ⟨rfl, rfl⟩)
                 | exact (impl_StampLess _ _ _ _ _).mono (fun e wn ⟨he, hbn⟩ => ⟨he, hW.next hbn⟩)
                 | exact ⟨rfl, (impl_StampLess _ _ _ _ _).mono (fun e wn ⟨he, hbn⟩ => ⟨he, hW.next hbn⟩)⟩
             clear hK K))
      refine wpQuiet_nil ?_
      intro W hW
      go_wp2
      go_ret
      exact ⟨rfl, hW.b⟩
    · by_cases e1 : s = u
      · subst e1
        have e2 : t ≠ v := slt_ne' hba
        have e3 : (t == v) = false := beq_false_of_ne e2
        go_wp2_with fail
        refine region_lit (C := fun W => St3 w w1.heap.size (w1.heap.size + 1) w2.heap.size s t s v x y W) (by kernel_rfl) (by kernel_rfl) T6 ?_
        clear c50 c51 c60 c61 c70 c71 T5 T6
        repeat (
          refine wpQuiet_step (fun K hK => ?_)
          go_simp
          first
            | (refine hK _ ?_; clear hK K)
            | (apply Exists.intro
               refine ⟨fun W hW => ?_, hK _ ?_⟩
               · obtain ⟨q0, q1, q2, q3, q4, q5⟩ := hW.cells
                 first
                   | (go_simp; exact rfl)
                   | (go_simp; exact ⟨rfl, rfl⟩)
                   | exact (impl_StampLess _ _ _ _ _).mono (fun e wn ⟨he, hbn⟩ => ⟨he, hW.next hbn⟩)
                   | exact ⟨rfl, (impl_StampLess _ _ _ _ _).mono (fun e wn ⟨he, hbn⟩ => ⟨he, hW.next hbn⟩)⟩
               clear hK K))
        refine wpQuiet_nil ?_
        intro W hW
        go_wp2
        go_ret
        exact ⟨rfl, hW.b⟩
      · have e3 : (s == u) = false := beq_false_of_ne e1
        go_wp2_with fail
        refine region_lit (C := fun W => St3 w w1.heap.size (w1.heap.size + 1) w2.heap.size s t u v x y W) (by kernel_rfl) (by kernel_rfl) T6 ?_
        clear c50 c51 c60 c61 c70 c71 T5 T6
        repeat (
          refine wpQuiet_step (fun K hK => ?_)
          go_simp
          first
            | (refine hK _ ?_; clear hK K)
            | (apply Exists.intro
               refine ⟨fun W hW => ?_, hK _ ?_⟩
               · obtain ⟨q0, q1, q2, q3, q4, q5⟩ := hW.cells
                 first
                   | (go_simp; exact rfl)
                   | (go_simp; exact ⟨rfl, rfl⟩)
                   | exact (impl_StampLess _ _ _ _ _).mono (fun e wn ⟨he, hbn⟩ => ⟨he, hW.next hbn⟩)
                   | exact ⟨rfl, (impl_StampLess _ _ _ _ _).mono (fun e wn ⟨he, hbn⟩ => ⟨he, hW.next hbn⟩)⟩
               clear hK K))
        refine wpQuiet_nil ?_
        intro W hW
        go_wp2
        go_ret
        exact ⟨rfl, hW.b⟩
  · have hba := slt_asymm hl
    cases hbc : slt u v x y
    · by_cases e1 : s = u
      · subst e1
        have e2 : t ≠ v := slt_ne hl
        have e3 : (t == v) = false := beq_false_of_ne e2
        go_wp2_with fail
        refine region_lit (C := fun W => St3 w w1.heap.size (w1.heap.size + 1) w2.heap.size s t s v x y W) (by kernel_rfl) (by kernel_rfl) T6 ?_
        clear c50 c51 c60 c61 c70 c71 T5 T6
        repeat (
          refine wpQuiet_step (fun K hK => ?_)
          go_simp
          first
            | (refine hK _ ?_; clear hK K)
            | (apply Exists.intro
               refine ⟨fun W hW => ?_, hK _ ?_⟩
               · obtain ⟨q0, q1, q2, q3, q4, q5⟩ := hW.cells
                 first
                   | (go_simp; exact rfl)
                   | (go_simp; exact ⟨rfl, rfl⟩)
                   | exact (impl_StampLess _ _ _ _ _).mono (fun e wn ⟨he, hbn⟩ => ⟨he, hW.next hbn⟩)
                   | exact ⟨rfl, (impl_StampLess _ _ _ _ _).mono (fun e wn ⟨he, hbn⟩ => ⟨he, hW.next hbn⟩)⟩
               clear hK K))
        refine wpQuiet_nil ?_
        intro W hW
        go_wp2
        go_ret
        exact ⟨rfl, hW.b⟩
      · have e3 : (s == u) = false := beq_false_of_ne e1
        go_wp2_with fail
        refine region_lit (C := fun W => St3 w w1.heap.size (w1.heap.size + 1) w2.heap.size s t u v x y W) (by kernel_rfl) (by kernel_rfl) T6 ?_
        clear c50 c51 c60 c61 c70 c71 T5 T6
        repeat (
          refine wpQuiet_step (fun K hK => ?_)
          go_simp
          first
            | (refine hK _ ?_; clear hK K)
            | (apply Exists.intro
               refine ⟨fun W hW => ?_, hK _ ?_⟩
               · obtain ⟨q0, q1, q2, q3, q4, q5⟩ := hW.cells
                 first
                   | (go_simp; exact rfl)
                   | (go_simp; exact ⟨rfl, rfl⟩)
                   | exact (impl_StampLess _ _ _ _ _).mono (fun e wn ⟨he, hbn⟩ => ⟨he, hW.next hbn⟩)
                   | exact ⟨rfl, (impl_StampLess _ _ _ _ _).mono (fun e wn ⟨he, hbn⟩ => ⟨he, hW.next hbn⟩)⟩
               clear hK K))
        refine wpQuiet_nil ?_
        intro W hW
        go_wp2
        go_ret
        exact ⟨rfl, hW.b⟩
    · have hac := slt_trans hl hbc
      by_cases e1 : s = u
      · subst e1
        have e2 : t ≠ v := slt_ne hl
        have e3 : (t == v) = false := beq_false_of_ne e2
        go_wp2_with fail
        refine region_lit (C := fun W => St3 w w1.heap.size (w1.heap.size + 1) w2.heap.size s t s v x y W) (by kernel_rfl) (by kernel_rfl) T6 ?_
        clear c50 c51 c60 c61 c70 c71 T5 T6
        repeat (
          refine wpQuiet_step (fun K hK => ?_)
          go_simp
          first
            | (refine hK _ ?_; clear hK K)
            | (apply Exists.intro
               refine ⟨fun W hW => ?_, hK _ ?_⟩
               · obtain ⟨q0, q1, q2, q3, q4, q5⟩ := hW.cells
                 first
                   | (go_simp; exact rfl)
                   | (go_simp; exact ⟨rfl, rfl⟩)
                   | exact (impl_StampLess _ _ _ _ _).mono (fun e wn ⟨he, hbn⟩ => ⟨he, hW.next hbn⟩)
                   | exact ⟨rfl, (impl_StampLess _ _ _ _ _).mono (fun e wn ⟨he, hbn⟩ => ⟨he, hW.next hbn⟩)⟩
               clear hK K))
        refine wpQuiet_nil ?_
        intro W hW
        go_wp2
        go_ret
        exact ⟨rfl, hW.b⟩
      · have e3 : (s == u) = false := beq_false_of_ne e1
        go_wp2_with fail
        refine region_lit (C := fun W => St3 w w1.heap.size (w1.heap.size + 1) w2.heap.size s t u v x y W) (by kernel_rfl) (by kernel_rfl) T6 ?_
        clear c50 c51 c60 c61 c70 c71 T5 T6
        repeat (
          refine wpQuiet_step (fun K hK => ?_)
          go_simp
          first
            | (refine hK _ ?_; clear hK K)
            | (apply Exists.intro
               refine ⟨fun W hW => ?_, hK _ ?_⟩
               · obtain ⟨q0, q1, q2, q3, q4, q5⟩ := hW.cells
                 first
                   | (go_simp; exact rfl)
                   | (go_simp; exact ⟨rfl, rfl⟩)
                   | exact (impl_StampLess _ _ _ _ _).mono (fun e wn ⟨he, hbn⟩ => ⟨he, hW.next hbn⟩)
                   | exact ⟨rfl, (impl_StampLess _ _ _ _ _).mono (fun e wn ⟨he, hbn⟩ => ⟨he, hW.next hbn⟩)⟩
               clear hK K))
        refine wpQuiet_nil ?_
        intro W hW
        go_wp2
        go_ret
        exact ⟨rfl, hW.b⟩

end Go.Proofs.Ytmjpblgnlbjejaa.RdF
