/-
  LogWithout of the model: contract. For slices that read as a list of at most 2^20 operations.
-/
import Derived.Test.YtlogpbejfifgdaaLwA
import Derived.Test.YtlogpbejfifgdaaK5
import Derived.Test.YtlogpbejfifgdaaK2
import Derived.Outline
namespace Go.Proofs.Ytlogpbejfifgdaa.LwE
open Go.RowKit Go.Proofs.Ytlogpbejfifgdaa.Base Go.Proofs.Ytlogpbejfifgdaa.St Go.Proofs.Ytlogpbejfifgdaa.StB Go.Proofs.Ytlogpbejfifgdaa.OpA Go.Proofs.Ytlogpbejfifgdaa.OpB Go.Proofs.Ytlogpbejfifgdaa.LgA Go.Proofs.Ytlogpbejfifgdaa.LgB Go.Proofs.Ytlogpbejfifgdaa.LgC Go.Proofs.Ytlogpbejfifgdaa.LgF Go.Proofs.Ytlogpbejfifgdaa.LgG Go.Proofs.Ytlogpbejfifgdaa.LgH Go.Proofs.Ytlogpbejfifgdaa.LgI Go.Proofs.Ytlogpbejfifgdaa.LgP Go.Proofs.Ytlogpbejfifgdaa.LgQ Go.Proofs.Ytlogpbejfifgdaa.LgR Go.Proofs.Ytlogpbejfifgdaa.LgS Go.Proofs.Ytlogpbejfifgdaa.LwA
set_option linter.unusedVariables false
attribute [local go_sem ↓] Go.wp_at_zero Go.wp_at_succ
attribute [local irreducible] Go.wpQuiet

set_option maxRecDepth 100000 in
set_option maxHeartbeats 4000000 in
theorem spec_LogWithout (a : Option Addr) (c : Nat) (os : List OpV) (s t : Int) (w : World) (hr : RdO w a os) (hl : os.length ≤ 1048576) (ht : ∀ k, k < os.length → (os.getD k zop).tx.size ≤ maxLen) :
    Calls Try.prog 27 #[.slice a os.length c, .agg #[.int .i64 s, .int .i64 t]] w (GivesO w (lwo os s t)) := by
  have HV0 := fun W (h : Below w.heap.size w W) => spec_validLog svop a c os W (hr.below h) hl ht
  have hx : lwo os s t = if vlog os then keepTo (kept s t) os os.length else [] := rfl
  rw [hx]
  obtain ⟨wx, hwx⟩ : ∃ wx, wx = w.alloc (.cells #[.int .i64 s, .int .i64 t] 25) := ⟨_, rfl⟩
  have hzx : wx.heap.size = w.heap.size + 1 := by rw [hwx]; simp
  have B0 : Below w.heap.size w wx := by rw [hwx]; exact (Below.refl _ _).alloc (Nat.le_refl _) _
  obtain ⟨wy, hwy⟩ : ∃ wy, wy = wx.alloc (.cells #[] 27) := ⟨_, rfl⟩
  have hzy : wy.heap.size = w.heap.size + 2 := by rw [hwy]; simp; omega
  have BY : Below wx.heap.size wx wy := by rw [hwy]; exact (Below.refl _ _).alloc (Nat.le_refl _) _
  have c0 : wy.cell? ⟨w.heap.size, 0, none⟩ = some (.int .i64 s) := by rw [BY.cell (by show w.heap.size < _; omega), hwx]; simp [go_sem]
  have c1 : wy.cell? ⟨w.heap.size, 1, none⟩ = some (.int .i64 t) := by rw [BY.cell (by show w.heap.size < _; omega), hwx]; simp [go_sem]
  have HE : OwnsO wy (w.heap.size + 1) (.slice (some ⟨w.heap.size + 1, 0, none⟩) 0 0) [] := by
    have := ownsO_empty wx (w.heap.size + 1) (by omega)
    rw [hwy]
    rwa [hzx] at this
  have HWY := Lib.hid (by rw [hwy, hwx] : wy = (w.alloc (.cells #[.int .i64 s, .int .i64 t] 25)).alloc (.cells #[] 27))
  have HBY := Lib.hid (B0.trans (BY.mono (by omega)))
  have HE0 := Lib.hid HE
  have HC0 := Lib.hid c0
  have HC1 := Lib.hid c1
  have HR := Lib.hid hr
  clear hr ht hx hwx hwy B0 BY c0 c1 HE
  obtain ⟨p, hp⟩ : ∃ p, vlog os = p := ⟨_, rfl⟩
  rw [hp] at HV0
  rw [hp]
  have HV := Lib.hid (HV0 wy HBY.out)
  clear HV0 hp
  cases p
  · go_enter Try.func27, Try.ntmps27
    go_wp2_with fail
    rw [← HWY.out]
    refine HV.out.mono ?_
    rintro e w1 ⟨rfl, b1⟩
    go_wp2
    go_ret
    exact GivesO.from (HBY.out.trans (b1.mono (by omega))) (givesO_nil _)
  · go_enter Try.func27, Try.ntmps27
    go_wp2_with fail
    rw [← HWY.out]
    refine HV.out.mono ?_
    rintro e w1 ⟨rfl, b1⟩
    have HB1 := Lib.hid (HBY.out.trans (b1.mono (by omega)))
    have HO1 := Lib.hid (HE0.out.below b1)
    have H0 := Lib.hid ((b1.cell (p := ⟨w.heap.size, 0, none⟩) (by show w.heap.size < _; omega)).trans HC0.out)
    have H1 := Lib.hid ((b1.cell (p := ⟨w.heap.size, 1, none⟩) (by show w.heap.size < _; omega)).trans HC1.out)
    have hz1 := b1.size
    clear b1 HV HE0 HC0 HC1 HBY HWY
    have hn1 : w.heap.size + 2 ≤ w1.heap.size := by omega
    go_wp2
    go_loopw [5, 6] (fun v i wr => ∃ k : Nat, k ≤ os.length ∧ i = .int .i64 k ∧ OwnsO wr (w.heap.size + 1) v (keepTo (kept s t) os k) ∧ Below (w.heap.size + 1) w1 wr) (fun _ i _ => os.length - (intOf i).toNat)
    case atStart => exact ⟨0, Nat.zero_le _, rfl, HO1.out, Below.refl _ _⟩
    case round =>
      obtain ⟨k, hk, rfl, hown, hnx⟩ := hrel
      have HNX := Lib.hid hnx
      have HOW := Lib.hid hown
      have hzw := hnx.size
      by_cases hlt : k < os.length
      · rcases HR.out with h0 | ⟨b, off, rfl, hc⟩
        · rw [h0] at hlt; exact absurd hlt (by simp)
        obtain ⟨o, ho⟩ : ∃ o, o = os.getD k zop := ⟨_, rfl⟩
        have hB : Below w.heap.size w wr := HB1.out.trans (hnx.mono (by omega))
        have HRQ := Lib.hid (by rw [ho]; exact rangeAt_below (hc k hlt) hB (rangeAt_lt (hc k hlt)) : wr.rangeAt b (off + k * 12) (opL o))
        have HX0 := Lib.hid (fun W (hW : Below wr.heap.size wr W) => ((hW.cell (p := ⟨w.heap.size, 0, none⟩) (by show w.heap.size < _; omega)).trans ((hnx.cell (p := ⟨w.heap.size, 0, none⟩) (by show w.heap.size < _; omega)).trans H0.out) : W.cell? ⟨w.heap.size, 0, none⟩ = some (.int .i64 s)))
        have HX1 := Lib.hid (fun W (hW : Below wr.heap.size wr W) => ((hW.cell (p := ⟨w.heap.size, 1, none⟩) (by show w.heap.size < _; omega)).trans ((hnx.cell (p := ⟨w.heap.size, 1, none⟩) (by show w.heap.size < _; omega)).trans H1.out) : W.cell? ⟨w.heap.size, 1, none⟩ = some (.int .i64 t)))
        have hkl := keepTo_len (kept s t) os k
        obtain ⟨q, hq⟩ : ∃ q, kept s t o = q := ⟨_, rfl⟩
        have HQ := Lib.hid (by rw [← ho]; exact hq : kept s t (os.getD k zop) = q)
        have HO := Lib.hid ho
        unfold kept gone at hq
        clear ho hB hnx hown hc
        have hk0 : (0 : Int) ≤ (k : Int) := Int.natCast_nonneg _
        have hk1 : (k : Int) < (os.length : Int) := by omega
        rcases (split9 (A := o.i = s) (B := o.j = t) (C := o.k = 10) (D := o.ts = s) (E := o.ta = t)) with ⟨a1, a3⟩ | ⟨a1, a3, a4⟩ | ⟨a1, a3, a4, a5⟩ | ⟨a1, a3, a4, a5⟩ | ⟨a1, a2, a3⟩ | ⟨a1, a2, a3, a4⟩ | ⟨a1, a2, a3, a4, a5⟩ | ⟨a1, a2, a3, a4, a5⟩ | ⟨a1, a2⟩
        · have hq2 : q = true := by rw [← hq]; simp [a1, a3]
          have g1 : (o.i == s) = false := by simp [a1]
          have g3 : (o.k == 10) = false := by simp [a3]
          have g3n : (o.k != 10) = true := by simp [a3]
          subst hq2
          clear hq a1 a3
          go_wp2
          refine region_lit (C := fun W => Below wr.heap.size wr W) (by kernel_rfl) (by kernel_rfl) (Below.refl _ _).drew ?_
          repeat (
            first
              | (refine wpQuiet_step (fun K hK => ?_)
                 go_simp
                 first
                   | (refine hK _ ?_; clear hK K)
                   | (apply Exists.intro
                      refine ⟨fun W hW => ?_, hK _ ?_⟩
                      · have x0 := HX0.out W hW
                        have x1 := HX1.out W hW
                        obtain ⟨q0, q1, q2, q3, q4, q5, q6, q7, q8, q9, q10, q11⟩ := c12 (rangeAt_below HRQ.out hW (rangeAt_lt HRQ.out))
                        first
                          | (go_simp; exact rfl)
                          | (go_simp; exact ⟨rfl, rfl⟩)
                      clear hK K)))
          refine wpQuiet_nil ?_
          intro W1 hW1
          have HB2 := Lib.hid (HNX.out.trans (hW1.mono (by omega)))
          have HO2 := Lib.hid (HOW.out.below hW1)
          have hz2 := hW1.size
          have HR1 := Lib.hid (rangeAt_below HRQ.out hW1 (rangeAt_lt HRQ.out))
          have hsz1 : w.heap.size + 1 ≤ W1.heap.size := by omega
          have hlen : (keepTo (kept s t) os k).length ≤ 1048576 := by omega
          go_wp2_with (first
            | (refine loadI rfl _ rfl rfl HR1.out ?_)
            | (with_reducible refine appendO (o := o) rfl _ _ rfl rfl rfl HO2.out hlen hsz1 ?_; intro v2 w2 hown2 hb2 hsz2))
          go_roundw
          case rel => exact ⟨k + 1, by omega, by go_num, by rw [keepTo, if_pos HQ.out, ← HO.out]; exact hown2, HB2.out.trans hb2⟩
          case measure => simp [intOf]; omega
        · have hq2 : q = true := by rw [← hq]; simp [a1, a3, a4]
          have g1 : (o.i == s) = false := by simp [a1]
          have g3 : (o.k == 10) = true := by simp [a3]
          have g3n : (o.k != 10) = false := by simp [a3]
          have g4 : (o.ts == s) = false := by simp [a4]
          subst hq2
          clear hq a1 a3 a4
          go_wp2
          refine region_lit (C := fun W => Below wr.heap.size wr W) (by kernel_rfl) (by kernel_rfl) (Below.refl _ _).drew ?_
          repeat (
            first
              | (refine wpQuiet_step (fun K hK => ?_)
                 go_simp
                 first
                   | (refine hK _ ?_; clear hK K)
                   | (apply Exists.intro
                      refine ⟨fun W hW => ?_, hK _ ?_⟩
                      · have x0 := HX0.out W hW
                        have x1 := HX1.out W hW
                        obtain ⟨q0, q1, q2, q3, q4, q5, q6, q7, q8, q9, q10, q11⟩ := c12 (rangeAt_below HRQ.out hW (rangeAt_lt HRQ.out))
                        first
                          | (go_simp; exact rfl)
                          | (go_simp; exact ⟨rfl, rfl⟩)
                      clear hK K)))
          refine wpQuiet_nil ?_
          intro W1 hW1
          have HB2 := Lib.hid (HNX.out.trans (hW1.mono (by omega)))
          have HO2 := Lib.hid (HOW.out.below hW1)
          have hz2 := hW1.size
          have HR1 := Lib.hid (rangeAt_below HRQ.out hW1 (rangeAt_lt HRQ.out))
          have hsz1 : w.heap.size + 1 ≤ W1.heap.size := by omega
          have hlen : (keepTo (kept s t) os k).length ≤ 1048576 := by omega
          go_wp2_with (first
            | (refine loadI rfl _ rfl rfl HR1.out ?_)
            | (with_reducible refine appendO (o := o) rfl _ _ rfl rfl rfl HO2.out hlen hsz1 ?_; intro v2 w2 hown2 hb2 hsz2))
          go_roundw
          case rel => exact ⟨k + 1, by omega, by go_num, by rw [keepTo, if_pos HQ.out, ← HO.out]; exact hown2, HB2.out.trans hb2⟩
          case measure => simp [intOf]; omega
        · have hq2 : q = true := by rw [← hq]; simp [a1, a3, a4, a5]
          have g1 : (o.i == s) = false := by simp [a1]
          have g3 : (o.k == 10) = true := by simp [a3]
          have g3n : (o.k != 10) = false := by simp [a3]
          have g4 : (o.ts == s) = true := by simp [a4]
          have g5 : (o.ta == t) = false := by simp [a5]
          subst hq2
          clear hq a1 a3 a4 a5
          go_wp2
          refine region_lit (C := fun W => Below wr.heap.size wr W) (by kernel_rfl) (by kernel_rfl) (Below.refl _ _).drew ?_
          repeat (
            first
              | (refine wpQuiet_step (fun K hK => ?_)
                 go_simp
                 first
                   | (refine hK _ ?_; clear hK K)
                   | (apply Exists.intro
                      refine ⟨fun W hW => ?_, hK _ ?_⟩
                      · have x0 := HX0.out W hW
                        have x1 := HX1.out W hW
                        obtain ⟨q0, q1, q2, q3, q4, q5, q6, q7, q8, q9, q10, q11⟩ := c12 (rangeAt_below HRQ.out hW (rangeAt_lt HRQ.out))
                        first
                          | (go_simp; exact rfl)
                          | (go_simp; exact ⟨rfl, rfl⟩)
                      clear hK K)))
          refine wpQuiet_nil ?_
          intro W1 hW1
          have HB2 := Lib.hid (HNX.out.trans (hW1.mono (by omega)))
          have HO2 := Lib.hid (HOW.out.below hW1)
          have hz2 := hW1.size
          have HR1 := Lib.hid (rangeAt_below HRQ.out hW1 (rangeAt_lt HRQ.out))
          have hsz1 : w.heap.size + 1 ≤ W1.heap.size := by omega
          have hlen : (keepTo (kept s t) os k).length ≤ 1048576 := by omega
          go_wp2_with (first
            | (refine loadI rfl _ rfl rfl HR1.out ?_)
            | (with_reducible refine appendO (o := o) rfl _ _ rfl rfl rfl HO2.out hlen hsz1 ?_; intro v2 w2 hown2 hb2 hsz2))
          go_roundw
          case rel => exact ⟨k + 1, by omega, by go_num, by rw [keepTo, if_pos HQ.out, ← HO.out]; exact hown2, HB2.out.trans hb2⟩
          case measure => simp [intOf]; omega
        · have hq2 : q = false := by rw [← hq]; simp [a1, a3, a4, a5]
          have g1 : (o.i == s) = false := by simp [a1]
          have g3 : (o.k == 10) = true := by simp [a3]
          have g3n : (o.k != 10) = false := by simp [a3]
          have g4 : (o.ts == s) = true := by simp [a4]
          have g5 : (o.ta == t) = true := by simp [a5]
          subst hq2
          clear hq a1 a3 a4 a5
          go_wp2
          refine region_lit (C := fun W => Below wr.heap.size wr W) (by kernel_rfl) (by kernel_rfl) (Below.refl _ _).drew ?_
          repeat (
            first
              | (refine wpQuiet_step (fun K hK => ?_)
                 go_simp
                 first
                   | (refine hK _ ?_; clear hK K)
                   | (apply Exists.intro
                      refine ⟨fun W hW => ?_, hK _ ?_⟩
                      · have x0 := HX0.out W hW
                        have x1 := HX1.out W hW
                        obtain ⟨q0, q1, q2, q3, q4, q5, q6, q7, q8, q9, q10, q11⟩ := c12 (rangeAt_below HRQ.out hW (rangeAt_lt HRQ.out))
                        first
                          | (go_simp; exact rfl)
                          | (go_simp; exact ⟨rfl, rfl⟩)
                      clear hK K)))
          refine wpQuiet_nil ?_
          intro W1 hW1
          have HB2 := Lib.hid (HNX.out.trans (hW1.mono (by omega)))
          have HO2 := Lib.hid (HOW.out.below hW1)
          have hz2 := hW1.size
          go_wp2
          go_roundw
          case rel => exact ⟨k + 1, by omega, by go_num, by rw [keepTo, if_neg (by rw [HQ.out]; exact Bool.false_ne_true)]; exact HO2.out, HB2.out⟩
          case measure => simp [intOf]; omega
        · have hq2 : q = true := by rw [← hq]; simp [a1, a2, a3]
          have g1 : (o.i == s) = true := by simp [a1]
          have g2 : (o.j == t) = false := by simp [a2]
          have g3 : (o.k == 10) = false := by simp [a3]
          have g3n : (o.k != 10) = true := by simp [a3]
          subst hq2
          clear hq a1 a2 a3
          go_wp2
          refine region_lit (C := fun W => Below wr.heap.size wr W) (by kernel_rfl) (by kernel_rfl) (Below.refl _ _).drew ?_
          repeat (
            first
              | (refine wpQuiet_step (fun K hK => ?_)
                 go_simp
                 first
                   | (refine hK _ ?_; clear hK K)
                   | (apply Exists.intro
                      refine ⟨fun W hW => ?_, hK _ ?_⟩
                      · have x0 := HX0.out W hW
                        have x1 := HX1.out W hW
                        obtain ⟨q0, q1, q2, q3, q4, q5, q6, q7, q8, q9, q10, q11⟩ := c12 (rangeAt_below HRQ.out hW (rangeAt_lt HRQ.out))
                        first
                          | (go_simp; exact rfl)
                          | (go_simp; exact ⟨rfl, rfl⟩)
                      clear hK K)))
          refine wpQuiet_nil ?_
          intro W1 hW1
          have HB2 := Lib.hid (HNX.out.trans (hW1.mono (by omega)))
          have HO2 := Lib.hid (HOW.out.below hW1)
          have hz2 := hW1.size
          have HR1 := Lib.hid (rangeAt_below HRQ.out hW1 (rangeAt_lt HRQ.out))
          have hsz1 : w.heap.size + 1 ≤ W1.heap.size := by omega
          have hlen : (keepTo (kept s t) os k).length ≤ 1048576 := by omega
          go_wp2_with (first
            | (refine loadI rfl _ rfl rfl HR1.out ?_)
            | (with_reducible refine appendO (o := o) rfl _ _ rfl rfl rfl HO2.out hlen hsz1 ?_; intro v2 w2 hown2 hb2 hsz2))
          go_roundw
          case rel => exact ⟨k + 1, by omega, by go_num, by rw [keepTo, if_pos HQ.out, ← HO.out]; exact hown2, HB2.out.trans hb2⟩
          case measure => simp [intOf]; omega
        · have hq2 : q = true := by rw [← hq]; simp [a1, a2, a3, a4]
          have g1 : (o.i == s) = true := by simp [a1]
          have g2 : (o.j == t) = false := by simp [a2]
          have g3 : (o.k == 10) = true := by simp [a3]
          have g3n : (o.k != 10) = false := by simp [a3]
          have g4 : (o.ts == s) = false := by simp [a4]
          subst hq2
          clear hq a1 a2 a3 a4
          go_wp2
          refine region_lit (C := fun W => Below wr.heap.size wr W) (by kernel_rfl) (by kernel_rfl) (Below.refl _ _).drew ?_
          repeat (
            first
              | (refine wpQuiet_step (fun K hK => ?_)
                 go_simp
                 first
                   | (refine hK _ ?_; clear hK K)
                   | (apply Exists.intro
                      refine ⟨fun W hW => ?_, hK _ ?_⟩
                      · have x0 := HX0.out W hW
                        have x1 := HX1.out W hW
                        obtain ⟨q0, q1, q2, q3, q4, q5, q6, q7, q8, q9, q10, q11⟩ := c12 (rangeAt_below HRQ.out hW (rangeAt_lt HRQ.out))
                        first
                          | (go_simp; exact rfl)
                          | (go_simp; exact ⟨rfl, rfl⟩)
                      clear hK K)))
          refine wpQuiet_nil ?_
          intro W1 hW1
          have HB2 := Lib.hid (HNX.out.trans (hW1.mono (by omega)))
          have HO2 := Lib.hid (HOW.out.below hW1)
          have hz2 := hW1.size
          have HR1 := Lib.hid (rangeAt_below HRQ.out hW1 (rangeAt_lt HRQ.out))
          have hsz1 : w.heap.size + 1 ≤ W1.heap.size := by omega
          have hlen : (keepTo (kept s t) os k).length ≤ 1048576 := by omega
          go_wp2_with (first
            | (refine loadI rfl _ rfl rfl HR1.out ?_)
            | (with_reducible refine appendO (o := o) rfl _ _ rfl rfl rfl HO2.out hlen hsz1 ?_; intro v2 w2 hown2 hb2 hsz2))
          go_roundw
          case rel => exact ⟨k + 1, by omega, by go_num, by rw [keepTo, if_pos HQ.out, ← HO.out]; exact hown2, HB2.out.trans hb2⟩
          case measure => simp [intOf]; omega
        · have hq2 : q = true := by rw [← hq]; simp [a1, a2, a3, a4, a5]
          have g1 : (o.i == s) = true := by simp [a1]
          have g2 : (o.j == t) = false := by simp [a2]
          have g3 : (o.k == 10) = true := by simp [a3]
          have g3n : (o.k != 10) = false := by simp [a3]
          have g4 : (o.ts == s) = true := by simp [a4]
          have g5 : (o.ta == t) = false := by simp [a5]
          subst hq2
          clear hq a1 a2 a3 a4 a5
          go_wp2
          refine region_lit (C := fun W => Below wr.heap.size wr W) (by kernel_rfl) (by kernel_rfl) (Below.refl _ _).drew ?_
          repeat (
            first
              | (refine wpQuiet_step (fun K hK => ?_)
                 go_simp
                 first
                   | (refine hK _ ?_; clear hK K)
                   | (apply Exists.intro
                      refine ⟨fun W hW => ?_, hK _ ?_⟩
                      · have x0 := HX0.out W hW
                        have x1 := HX1.out W hW
                        obtain ⟨q0, q1, q2, q3, q4, q5, q6, q7, q8, q9, q10, q11⟩ := c12 (rangeAt_below HRQ.out hW (rangeAt_lt HRQ.out))
                        first
                          | (go_simp; exact rfl)
                          | (go_simp; exact ⟨rfl, rfl⟩)
                      clear hK K)))
          refine wpQuiet_nil ?_
          intro W1 hW1
          have HB2 := Lib.hid (HNX.out.trans (hW1.mono (by omega)))
          have HO2 := Lib.hid (HOW.out.below hW1)
          have hz2 := hW1.size
          have HR1 := Lib.hid (rangeAt_below HRQ.out hW1 (rangeAt_lt HRQ.out))
          have hsz1 : w.heap.size + 1 ≤ W1.heap.size := by omega
          have hlen : (keepTo (kept s t) os k).length ≤ 1048576 := by omega
          go_wp2_with (first
            | (refine loadI rfl _ rfl rfl HR1.out ?_)
            | (with_reducible refine appendO (o := o) rfl _ _ rfl rfl rfl HO2.out hlen hsz1 ?_; intro v2 w2 hown2 hb2 hsz2))
          go_roundw
          case rel => exact ⟨k + 1, by omega, by go_num, by rw [keepTo, if_pos HQ.out, ← HO.out]; exact hown2, HB2.out.trans hb2⟩
          case measure => simp [intOf]; omega
        · have hq2 : q = false := by rw [← hq]; simp [a1, a2, a3, a4, a5]
          have g1 : (o.i == s) = true := by simp [a1]
          have g2 : (o.j == t) = false := by simp [a2]
          have g3 : (o.k == 10) = true := by simp [a3]
          have g3n : (o.k != 10) = false := by simp [a3]
          have g4 : (o.ts == s) = true := by simp [a4]
          have g5 : (o.ta == t) = true := by simp [a5]
          subst hq2
          clear hq a1 a2 a3 a4 a5
          go_wp2
          refine region_lit (C := fun W => Below wr.heap.size wr W) (by kernel_rfl) (by kernel_rfl) (Below.refl _ _).drew ?_
          repeat (
            first
              | (refine wpQuiet_step (fun K hK => ?_)
                 go_simp
                 first
                   | (refine hK _ ?_; clear hK K)
                   | (apply Exists.intro
                      refine ⟨fun W hW => ?_, hK _ ?_⟩
                      · have x0 := HX0.out W hW
                        have x1 := HX1.out W hW
                        obtain ⟨q0, q1, q2, q3, q4, q5, q6, q7, q8, q9, q10, q11⟩ := c12 (rangeAt_below HRQ.out hW (rangeAt_lt HRQ.out))
                        first
                          | (go_simp; exact rfl)
                          | (go_simp; exact ⟨rfl, rfl⟩)
                      clear hK K)))
          refine wpQuiet_nil ?_
          intro W1 hW1
          have HB2 := Lib.hid (HNX.out.trans (hW1.mono (by omega)))
          have HO2 := Lib.hid (HOW.out.below hW1)
          have hz2 := hW1.size
          go_wp2
          go_roundw
          case rel => exact ⟨k + 1, by omega, by go_num, by rw [keepTo, if_neg (by rw [HQ.out]; exact Bool.false_ne_true)]; exact HO2.out, HB2.out⟩
          case measure => simp [intOf]; omega
        · have hq2 : q = false := by rw [← hq]; simp [a1, a2]
          have g1 : (o.i == s) = true := by simp [a1]
          have g2 : (o.j == t) = true := by simp [a2]
          subst hq2
          clear hq a1 a2
          go_wp2
          refine region_lit (C := fun W => Below wr.heap.size wr W) (by kernel_rfl) (by kernel_rfl) (Below.refl _ _).drew ?_
          repeat (
            first
              | (refine wpQuiet_step (fun K hK => ?_)
                 go_simp
                 first
                   | (refine hK _ ?_; clear hK K)
                   | (apply Exists.intro
                      refine ⟨fun W hW => ?_, hK _ ?_⟩
                      · have x0 := HX0.out W hW
                        have x1 := HX1.out W hW
                        obtain ⟨q0, q1, q2, q3, q4, q5, q6, q7, q8, q9, q10, q11⟩ := c12 (rangeAt_below HRQ.out hW (rangeAt_lt HRQ.out))
                        first
                          | (go_simp; exact rfl)
                          | (go_simp; exact ⟨rfl, rfl⟩)
                      clear hK K)))
          refine wpQuiet_nil ?_
          intro W1 hW1
          have HB2 := Lib.hid (HNX.out.trans (hW1.mono (by omega)))
          have HO2 := Lib.hid (HOW.out.below hW1)
          have hz2 := hW1.size
          go_wp2
          go_roundw
          case rel => exact ⟨k + 1, by omega, by go_num, by rw [keepTo, if_neg (by rw [HQ.out]; exact Bool.false_ne_true)]; exact HO2.out, HB2.out⟩
          case measure => simp [intOf]; omega
      · obtain rfl : k = os.length := by omega
        go_wp2
        go_ret
        exact OwnsO.gives (OwnsO.lower HOW.out (by omega)) (HB1.out.trans (HNX.out.mono (by omega)))

end Go.Proofs.Ytlogpbejfifgdaa.LwE
