/-
  The walk of the law FnNextStamp: it returns true, whatever the bytes. No condition.
-/
import Derived.Test.YtlogpbejfifgdaaVdB
import Derived.Test.YtlogpbejfifgdaaVdC
import Derived.Test.YtlogpbejfifgdaaK3
import Derived.Test.YtlogpbejfifgdaaK2
import Derived.Outline
namespace Go.Proofs.Ytlogpbejfifgdaa.VdD
open Go.RowKit Go.Proofs.Ytlogpbejfifgdaa.Base Go.Proofs.Ytlogpbejfifgdaa.St Go.Proofs.Ytlogpbejfifgdaa.StB Go.Proofs.Ytlogpbejfifgdaa.Vec Go.Proofs.Ytlogpbejfifgdaa.Row Go.Proofs.Ytlogpbejfifgdaa.RowB Go.Proofs.Ytlogpbejfifgdaa.RowC Go.Proofs.Ytlogpbejfifgdaa.VecA Go.Proofs.Ytlogpbejfifgdaa.VecC Go.Proofs.Ytlogpbejfifgdaa.VecD Go.Proofs.Ytlogpbejfifgdaa.VecE Go.Proofs.Ytlogpbejfifgdaa.RdA Go.Proofs.Ytlogpbejfifgdaa.RdB Go.Proofs.Ytlogpbejfifgdaa.RdC Go.Proofs.Ytlogpbejfifgdaa.RdD Go.Proofs.Ytlogpbejfifgdaa.VdA Go.Proofs.Ytlogpbejfifgdaa.VdB Go.Proofs.Ytlogpbejfifgdaa.VdC Go.Proofs.Ytlogpbejfifgdaa.LgF
set_option linter.unusedVariables false
attribute [local go_sem ↓] Go.wp_at_zero Go.wp_at_succ
attribute [local irreducible] Go.wpQuiet

set_option maxRecDepth 100000 in
set_option maxHeartbeats 4000000 in
theorem walk (a0 : Option Addr) (len0 cap0 : Nat) (z0 : List Int) (a1 : Option Addr) (len1 cap1 : Nat) (z1 : List Int) (w : World) (r0 : IsRow .u8 w a0 len0 cap0 z0) (r1 : IsRow .u8 w a1 len1 cap1 z1) :
    Calls Try.prog 11 #[.slice a0 len0 cap0, .slice a1 len1 cap1] w fun e w' => e = .returned (.bool true) ∧ Below w.heap.size w w' := by
  obtain ⟨xs, rfl, hx, rx⟩ := bytes_rd r0
  obtain ⟨ys, rfl, hy, ry⟩ := bytes_rd r1
  clear r0 r1
  by_cases l0 : (1048576 : Int) < (xs.length : Int)
  · clear rx ry
    go_enter Try.func11, Try.ntmps11
    go_wp2
    go_ret
    exact ⟨rfl, Below.refl _ _⟩
  by_cases l1 : (1048576 : Int) < (ys.length : Int)
  · clear rx ry
    go_enter Try.func11, Try.ntmps11
    go_wp2
    go_ret
    exact ⟨rfl, Below.refl _ _⟩
  have HD := Lib.hid (drawNext a0 cap0 xs w rx hx)
  have HD2 := Lib.hid (fun W (hb : Below w.heap.size w W) => drawContains a1 cap1 ys W (rdb_below ry hb) hy)
  clear rx hx ry hy
  go_enter Try.func11, Try.ntmps11
  go_wp2_with fail
  refine HD.out.mono ?_
  rintro e w1 ⟨⟨A, c, us, z, rfl, hu, hul⟩, b1⟩
  have hz1 := b1.size
  have hI := impl_NextStamp A c us z w1 hu (by omega)
  have hS := fun W (hb : Below w1.heap.size w1 W) => spec_NextStamp A c us z W (Rd.below hu hb) (by omega)
  have hC := fun s t W (hb : Below w1.heap.size w1 W) => impl_VectorContains A c us s t W (Rd.below hu hb) (by omega)
  have HB1 := Lib.hid b1
  clear hu b1 HD l0 l1
  obtain ⟨ok, hok⟩ : ∃ ok, nOk us z = ok := ⟨_, rfl⟩
  have HLaw := Lib.hid (fun (h : ok = true) => next_law (by rw [hok]; exact h : nOk us z = true))
  have HNo := Lib.hid (fun (h : ok = false) => next_no (by rw [hok]; exact h : nOk us z = false))
  obtain ⟨S, hS0⟩ : ∃ S, S = nSeq us z := ⟨_, rfl⟩
  obtain ⟨V, hV0⟩ : ∃ V, V = nWho us z := ⟨_, rfl⟩
  rw [← hS0, ← hV0] at hI hS HLaw HNo
  have HI := Lib.hid hI
  have HS := Lib.hid hS
  have HC := Lib.hid hC
  clear hI hS hC hok hS0 hV0
  go_wp2_with fail
  refine HI.out.mono ?_
  rintro e w2 ⟨rfl, b2⟩
  obtain ⟨w3, hw3⟩ : ∃ w3, w3 = w2.alloc (.cells #[.int .i64 S, .int .i64 V] 25) := ⟨_, rfl⟩
  have hb3 : Below w2.heap.size w2 w3 := by rw [hw3]; exact (Below.refl _ _).alloc (Nat.le_refl _) _
  have HB3 := Lib.hid (b2.trans (hb3.mono b2.size))
  have hnz : w2.heap.size < w3.heap.size := by rw [hw3]; simp
  have h13 := HB3.out.size
  have e0 : w3.cell? ⟨w2.heap.size, 0, none⟩ = some (.int .i64 S) := by rw [hw3]; simp [go_sem]
  have e1 : w3.cell? ⟨w2.heap.size, 1, none⟩ = some (.int .i64 V) := by rw [hw3]; simp [go_sem]
  have HX0 := Lib.hid (fun W (hW : Below w3.heap.size w3 W) => ((hW.cell (p := ⟨w2.heap.size, 0, none⟩) hnz).trans e0 : W.cell? ⟨w2.heap.size, 0, none⟩ = some (.int .i64 S)))
  have HX1 := Lib.hid (fun W (hW : Below w3.heap.size w3 W) => ((hW.cell (p := ⟨w2.heap.size, 1, none⟩) hnz).trans e1 : W.cell? ⟨w2.heap.size, 1, none⟩ = some (.int .i64 V)))
  have HSW := Lib.hid (fun W (hW : Below w3.heap.size w3 W) => HS.out W (HB3.out.trans (hW.mono h13)))
  have HW3 := Lib.hid hw3
  clear hb3 b2 hw3 e0 e1 HI HS
  cases ok
  · obtain ⟨rfl, rfl⟩ := HNo.out rfl
    clear HNo HLaw
    go_wp2
    rw [← HW3.out]
    refine region_lit (C := fun W => Below w3.heap.size w3 W) (by kernel_rfl) (by kernel_rfl) (Below.refl _ _).drew ?_
    repeat (
      first
        | (refine wpQuiet_step (fun K hK => ?_)
           go_simp
           first
             | (refine hK _ ?_; clear hK K)
             | (apply Exists.intro
                refine ⟨fun W hW => ?_, hK _ ?_⟩
                · have x0 := HX0.out W hW
                  have x1 := HX1.out W hW
                  first
                    | (go_simp; exact rfl)
                    | (go_simp; exact ⟨rfl, rfl⟩)
                    | with_reducible exact (HSW.out _ hW).mono (fun e wn ⟨he, hbn⟩ => ⟨he, hW.trans (hbn.mono hW.size)⟩)
                    | with_reducible exact ⟨rfl, (HSW.out _ hW).mono (fun e wn ⟨he, hbn⟩ => ⟨he, hW.trans (hbn.mono hW.size)⟩)⟩
                clear hK K)))
    refine wpQuiet_nil ?_
    intro W1 hW1
    have HB4 := Lib.hid hW1
    clear hW1
    go_wp2
    refine region_lit (C := fun W => Below w3.heap.size w3 W) (by kernel_rfl) (by kernel_rfl) HB4.out.drew ?_
    repeat (
      first
        | (refine wpQuiet_step (fun K hK => ?_)
           go_simp
           first
             | (refine hK _ ?_; clear hK K)
             | (apply Exists.intro
                refine ⟨fun W hW => ?_, hK _ ?_⟩
                · have x0 := HX0.out W hW
                  have x1 := HX1.out W hW
                  first
                    | (go_simp; exact rfl)
                    | (go_simp; exact ⟨rfl, rfl⟩)
                    | with_reducible exact (HSW.out _ hW).mono (fun e wn ⟨he, hbn⟩ => ⟨he, hW.trans (hbn.mono hW.size)⟩)
                    | with_reducible exact ⟨rfl, (HSW.out _ hW).mono (fun e wn ⟨he, hbn⟩ => ⟨he, hW.trans (hbn.mono hW.size)⟩)⟩
                clear hK K)))
    refine wpQuiet_nil ?_
    intro W2 hW2
    go_wp2
    go_ret
    exact ⟨rfl, HB1.out.trans ((HB3.out.trans (hW2.mono h13)).mono hz1)⟩
  · obtain ⟨hS0, hV, hvs, hvc, hsl⟩ := HLaw.out rfl
    subst hV
    have gz : (S == 0) = false := by simp [hS0]
    have HVS := Lib.hid hvs
    have HVC := Lib.hid hvc
    have HSL := Lib.hid hsl
    clear HNo HLaw hS0 hvs hvc hsl
    go_wp2
    rw [← HW3.out]
    refine region_lit (C := fun W => Below w3.heap.size w3 W) (by kernel_rfl) (by kernel_rfl) (Below.refl _ _).drew ?_
    repeat (
      first
        | (refine wpQuiet_step (fun K hK => ?_)
           go_simp
           first
             | (refine hK _ ?_; clear hK K)
             | (apply Exists.intro
                refine ⟨fun W hW => ?_, hK _ ?_⟩
                · have x0 := HX0.out W hW
                  have x1 := HX1.out W hW
                  first
                    | (go_simp; exact rfl)
                    | (go_simp; exact ⟨rfl, rfl⟩)
                    | with_reducible exact (HSW.out _ hW).mono (fun e wn ⟨he, hbn⟩ => ⟨he, hW.trans (hbn.mono hW.size)⟩)
                    | with_reducible exact ⟨rfl, (HSW.out _ hW).mono (fun e wn ⟨he, hbn⟩ => ⟨he, hW.trans (hbn.mono hW.size)⟩)⟩
                clear hK K)))
    refine wpQuiet_nil ?_
    intro W1 hW1
    have HB4 := Lib.hid (HB3.out.trans (hW1.mono h13))
    have HX4 := Lib.hid hW1
    have hz4 := HB4.out.size
    have hz34 := hW1.size
    clear hW1 gz
    go_wp2_with fail
    refine (HD2.out _ (HB1.out.trans (HB4.out.mono hz1))).mono ?_
    rintro e w5 ⟨⟨B, d, vs, s, t, rfl, hv, hvl⟩, b5⟩
    obtain ⟨w6, hw6⟩ : ∃ w6, w6 = w5.alloc (.cells #[.int .i64 s, .int .i64 t] 25) := ⟨_, rfl⟩
    have hb6 : Below w5.heap.size w5 w6 := by rw [hw6]; exact (Below.refl _ _).alloc (Nat.le_refl _) _
    have HX6 := Lib.hid (HX4.out.trans ((b5.trans (hb6.mono b5.size)).mono hz34))
    have HB6 := Lib.hid (HB3.out.trans (HX6.out.mono h13))
    have hnz6 : w5.heap.size < w6.heap.size := by rw [hw6]; simp
    have hz36 := HX6.out.size
    have e0 : w6.cell? ⟨w5.heap.size, 0, none⟩ = some (.int .i64 s) := by rw [hw6]; simp [go_sem]
    have e1 : w6.cell? ⟨w5.heap.size, 1, none⟩ = some (.int .i64 t) := by rw [hw6]; simp [go_sem]
    have HY0 := Lib.hid (fun W (hW : Below w6.heap.size w6 W) => ((hW.cell (p := ⟨w5.heap.size, 0, none⟩) hnz6).trans e0 : W.cell? ⟨w5.heap.size, 0, none⟩ = some (.int .i64 s)))
    have HY1 := Lib.hid (fun W (hW : Below w6.heap.size w6 W) => ((hW.cell (p := ⟨w5.heap.size, 1, none⟩) hnz6).trans e1 : W.cell? ⟨w5.heap.size, 1, none⟩ = some (.int .i64 t)))
    have HW6 := Lib.hid hw6
    have h16 := HB6.out.size
    have x0 := HX0.out w6 HX6.out
    have x1 := HX1.out w6 HX6.out
    have hC1 := HC.out S V
    rw [HVC.out] at hC1
    have HC1 := Lib.hid hC1
    obtain ⟨cx, hcx⟩ : ∃ cx, vcon us s t = cx := ⟨_, rfl⟩
    have hC2 := HC.out s t
    rw [hcx] at hC2
    have HC2 := Lib.hid hC2
    have HSL2 := Lib.hid (fun (h : cx = true) => HSL.out s t (by rw [hcx]; exact h))
    clear hb6 hw6 e0 e1 b5 hv hvl hC1 hC2 hcx HC HVC HSL
    rw [HW6.out] at x0 x1
    go_wp2_with fail
    rw [← HW6.out]
    have hvs2 := impl_ValidStamp S V w6
    rw [HVS.out] at hvs2
    refine hvs2.mono ?_
    rintro e w7 ⟨rfl, b7⟩
    clear hvs2 x0 x1
    have hz7 := b7.size
    have x0 := HX0.out w7 (HX6.out.trans (b7.mono hz36))
    have x1 := HX1.out w7 (HX6.out.trans (b7.mono hz36))
    go_wp2_with fail
    refine (HC1.out _ (HB6.out.trans (b7.mono h16))).mono ?_
    rintro e w8 ⟨rfl, b8⟩
    clear x0 x1
    have HB8 := Lib.hid (b7.trans (b8.mono hz7))
    have hz8 := HB8.out.size
    have x0 := HX0.out w8 (HX6.out.trans (HB8.out.mono hz36))
    have x1 := HX1.out w8 (HX6.out.trans (HB8.out.mono hz36))
    have y0 := HY0.out w8 HB8.out
    have y1 := HY1.out w8 HB8.out
    clear b7 b8
    go_wp2_with fail
    refine (HC2.out _ (HB6.out.trans (HB8.out.mono h16))).mono ?_
    rintro e w9 ⟨rfl, b9⟩
    clear x0 x1 y0 y1
    have HB9 := Lib.hid (HB8.out.trans (b9.mono hz8))
    have hz9 := HB9.out.size
    have x0 := HX0.out w9 (HX6.out.trans (HB9.out.mono hz36))
    have x1 := HX1.out w9 (HX6.out.trans (HB9.out.mono hz36))
    have y0 := HY0.out w9 HB9.out
    have y1 := HY1.out w9 HB9.out
    clear b9
    cases cx
    · go_wp2
      go_ret
      exact ⟨rfl, HB1.out.trans ((HB6.out.trans (HB9.out.mono h16)).mono hz1)⟩
    · go_wp2_with fail
      have hsl := impl_StampLess s t S V w9
      rw [HSL2.out (by first | rfl | trivial)] at hsl
      refine hsl.mono ?_
      rintro e w10 ⟨rfl, b10⟩
      clear x0 x1 y0 y1
      have HB10 := Lib.hid (HB9.out.trans (b10.mono hz9))
      go_wp2
      go_ret
      exact ⟨rfl, HB1.out.trans ((HB6.out.trans (HB10.out.mono h16)).mono hz1)⟩

end Go.Proofs.Ytlogpbejfifgdaa.VdD
