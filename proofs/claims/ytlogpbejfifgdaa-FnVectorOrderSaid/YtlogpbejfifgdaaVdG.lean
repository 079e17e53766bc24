/-
  The walk of the law FnVectorOrder: it returns true, whatever the bytes. No condition.
-/
import Derived.Test.YtlogpbejfifgdaaVdB
import Derived.Test.YtlogpbejfifgdaaVdC
import Derived.Test.YtlogpbejfifgdaaK3
import Derived.Test.YtlogpbejfifgdaaK2
import Derived.Test.YtlogpbejfifgdaaVdF
import Derived.Test.YtlogpbejfifgdaaVdE
import Derived.Outline
namespace Go.Proofs.Ytlogpbejfifgdaa.VdG
open Go.RowKit Go.Proofs.Ytlogpbejfifgdaa.Base Go.Proofs.Ytlogpbejfifgdaa.St Go.Proofs.Ytlogpbejfifgdaa.StB Go.Proofs.Ytlogpbejfifgdaa.Vec Go.Proofs.Ytlogpbejfifgdaa.Row Go.Proofs.Ytlogpbejfifgdaa.RowB Go.Proofs.Ytlogpbejfifgdaa.RowC Go.Proofs.Ytlogpbejfifgdaa.VecA Go.Proofs.Ytlogpbejfifgdaa.VecC Go.Proofs.Ytlogpbejfifgdaa.VecD Go.Proofs.Ytlogpbejfifgdaa.VecE Go.Proofs.Ytlogpbejfifgdaa.RdA Go.Proofs.Ytlogpbejfifgdaa.RdB Go.Proofs.Ytlogpbejfifgdaa.RdC Go.Proofs.Ytlogpbejfifgdaa.RdD Go.Proofs.Ytlogpbejfifgdaa.VdA Go.Proofs.Ytlogpbejfifgdaa.VdB Go.Proofs.Ytlogpbejfifgdaa.VdC Go.Proofs.Ytlogpbejfifgdaa.LgF Go.Proofs.Ytlogpbejfifgdaa.VdF Go.Proofs.Ytlogpbejfifgdaa.VdE
set_option linter.unusedVariables false
attribute [local go_sem ↓] Go.wp_at_zero Go.wp_at_succ
attribute [local irreducible] Go.wpQuiet

set_option maxRecDepth 100000 in
set_option maxHeartbeats 4000000 in
theorem walk (a0 : Option Addr) (len0 cap0 : Nat) (z0 : List Int) (a1 : Option Addr) (len1 cap1 : Nat) (z1 : List Int) (w : World) (r0 : IsRow .u8 w a0 len0 cap0 z0) (r1 : IsRow .u8 w a1 len1 cap1 z1) :
    Calls Try.prog 10 #[.slice a0 len0 cap0, .slice a1 len1 cap1] w fun e w' => e = .returned (.bool true) ∧ Below w.heap.size w w' := by
  obtain ⟨xs, rfl, hx, rx⟩ := bytes_rd r0
  obtain ⟨ys, rfl, hy, ry⟩ := bytes_rd r1
  clear r0 r1
  by_cases l0 : (1048576 : Int) < (xs.length : Int)
  · clear rx ry
    go_enter Try.func10, Try.ntmps10
    go_wp2
    go_ret
    exact ⟨rfl, Below.refl _ _⟩
  by_cases l1 : (1048576 : Int) < (ys.length : Int)
  · clear rx ry
    go_enter Try.func10, Try.ntmps10
    go_wp2
    go_ret
    exact ⟨rfl, Below.refl _ _⟩
  have HD := Lib.hid (drawLE a0 cap0 xs w rx hx)
  have HD2 := Lib.hid (fun W (hb : Below w.heap.size w W) => drawContains a1 cap1 ys W (rdb_below ry hb) hy)
  clear rx hx ry hy
  go_enter Try.func10, Try.ntmps10
  go_wp2_with fail
  refine HD.out.mono ?_
  rintro e w1 ⟨⟨A, c, us, B, d, vs, rfl, hu, hv, hul, hvl⟩, b1⟩
  have HB1 := Lib.hid b1
  have hz1 := b1.size
  have HU_1 := Lib.hid hu
  have HV_1 := Lib.hid hv
  have hul2 : us.length ≤ 1048576 := by omega
  have hvl2 : vs.length ≤ 1048576 := by omega
  clear hu hv b1 HD l0 l1 hul hvl
  have hLE := fun W (h : Rd W A us) (h' : Rd W B vs) => impl_VectorLessEqual A B c d us vs W h h' hul2 hvl2
  have hSE := fun W (h : Rd W A us) (h' : Rd W B vs) => spec_VectorLessEqual A B c d us vs W h h' hul2 hvl2
  have hGE := fun W (h : Rd W B vs) (h' : Rd W A us) => impl_VectorLessEqual B A d c vs us W h h' hvl2 hul2
  have hVu := fun W (h : Rd W A us) => impl_ValidVector A c us W h hul2
  have hVv := fun W (h : Rd W B vs) => impl_ValidVector B d vs W h hvl2
  have HMx := Lib.hid (fun W (h : Rd W A us) (h' : Rd W B vs) => impl_VectorMax A B c d us vs W h h' hul2 hvl2)
  have hM := vmap_len mx us vs
  have hEM := fun a c W (h : Rd W a (vmap mx us vs)) (h' : Rd W B vs) => equalInts a B c d (vmap mx us vs) vs W h h' (by omega) hvl2
  have hEQ := fun W (h : Rd W A us) (h' : Rd W B vs) => equalInts A B c d us vs W h h' hul2 hvl2
  have HCU := Lib.hid (fun s t W (h : Rd W A us) => impl_VectorContains A c us s t W h hul2)
  have HCV := Lib.hid (fun s t W (h : Rd W B vs) => impl_VectorContains B d vs s t W h hvl2)
  obtain ⟨p, hp⟩ : ∃ p, vv us = p := ⟨_, rfl⟩
  obtain ⟨q, hq⟩ : ∃ q, vv vs = q := ⟨_, rfl⟩
  rw [hp] at hVu
  rw [hq] at hVv
  have HLaw := Lib.hid (fun (h : p = true) (h' : q = true) => order_law (xs := us) (ys := vs) (by rw [hp]; exact h) (by rw [hq]; exact h'))
  obtain ⟨i, hi⟩ : ∃ i, vle us vs = i := ⟨_, rfl⟩
  obtain ⟨j, hj⟩ : ∃ j, vle vs us = j := ⟨_, rfl⟩
  rw [hi] at hLE hSE HLaw
  rw [hj] at hGE HLaw
  have HLE := Lib.hid hLE
  have HSE := Lib.hid hSE
  have HGE := Lib.hid hGE
  have HVu := Lib.hid hVu
  have HVv := Lib.hid hVv
  have HEM := Lib.hid hEM
  have HEQ := Lib.hid hEQ
  clear hLE hSE hGE hVu hVv hEM hEQ hp hq hi hj hM hul2 hvl2
  go_wp2_with fail
  refine (HLE.out _ HU_1.out HV_1.out).mono ?_
  rintro e w2 ⟨rfl, b2⟩
  have HB2 := Lib.hid (HB1.out.trans (b2.mono hz1))
  have hz2 := HB2.out.size
  have HU_2 := Lib.hid (Rd.below HU_1.out b2)
  have HV_2 := Lib.hid (Rd.below HV_1.out b2)
  clear HB1 hz1 b2 HU_1 HV_1
  go_wp2_with fail
  refine (HSE.out _ HU_2.out HV_2.out).mono ?_
  rintro e w3 ⟨rfl, b3⟩
  have HB3 := Lib.hid (HB2.out.trans (b3.mono hz2))
  have hz3 := HB3.out.size
  have HU_3 := Lib.hid (Rd.below HU_2.out b3)
  have HV_3 := Lib.hid (Rd.below HV_2.out b3)
  clear HB2 hz2 b3 HU_2 HV_2
  have hii : (i != i) = false := by cases i <;> rfl
  have hie : (i == i) = true := by cases i <;> rfl
  cases p
  · skip
    go_wp2_with fail
    refine (HVu.out _ HU_3.out).mono ?_
    rintro e w4 ⟨rfl, b4⟩
    have HB4 := Lib.hid (HB3.out.trans (b4.mono hz3))
    have hz4 := HB4.out.size
    have HU_4 := Lib.hid (Rd.below HU_3.out b4)
    have HV_4 := Lib.hid (Rd.below HV_3.out b4)
    clear HB3 hz3 b4 HU_3 HV_3
    go_wp2_with fail
    refine (HSE.out _ HU_4.out HV_4.out).mono ?_
    rintro e w5 ⟨rfl, b5⟩
    have HB5 := Lib.hid (HB4.out.trans (b5.mono hz4))
    have hz5 := HB5.out.size
    have HU_5 := Lib.hid (Rd.below HU_4.out b5)
    have HV_5 := Lib.hid (Rd.below HV_4.out b5)
    clear HB4 hz4 b5 HU_4 HV_4
    go_wp2
    go_ret
    exact ⟨rfl, HB5.out⟩
  · skip
    go_wp2_with fail
    refine (HVu.out _ HU_3.out).mono ?_
    rintro e w4 ⟨rfl, b4⟩
    have HB4 := Lib.hid (HB3.out.trans (b4.mono hz3))
    have hz4 := HB4.out.size
    have HU_4 := Lib.hid (Rd.below HU_3.out b4)
    have HV_4 := Lib.hid (Rd.below HV_3.out b4)
    clear HB3 hz3 b4 HU_3 HV_3
    cases q
    · skip
      go_wp2_with fail
      refine (HVv.out _ HV_4.out).mono ?_
      rintro e w5 ⟨rfl, b5⟩
      have HB5 := Lib.hid (HB4.out.trans (b5.mono hz4))
      have hz5 := HB5.out.size
      have HU_5 := Lib.hid (Rd.below HU_4.out b5)
      have HV_5 := Lib.hid (Rd.below HV_4.out b5)
      clear HB4 hz4 b5 HU_4 HV_4
      go_wp2_with fail
      refine (HSE.out _ HU_5.out HV_5.out).mono ?_
      rintro e w6 ⟨rfl, b6⟩
      have HB6 := Lib.hid (HB5.out.trans (b6.mono hz5))
      have hz6 := HB6.out.size
      have HU_6 := Lib.hid (Rd.below HU_5.out b6)
      have HV_6 := Lib.hid (Rd.below HV_5.out b6)
      clear HB5 hz5 b6 HU_5 HV_5
      go_wp2
      go_ret
      exact ⟨rfl, HB6.out⟩
    · skip
      go_wp2_with fail
      refine (HVv.out _ HV_4.out).mono ?_
      rintro e w5 ⟨rfl, b5⟩
      have HB5 := Lib.hid (HB4.out.trans (b5.mono hz4))
      have hz5 := HB5.out.size
      have HU_5 := Lib.hid (Rd.below HU_4.out b5)
      have HV_5 := Lib.hid (Rd.below HV_4.out b5)
      clear HB4 hz4 b5 HU_4 HV_4
      obtain ⟨k1, k2, k3⟩ := HLaw.out (by first | rfl | trivial) (by first | rfl | trivial)
      have HK3 := Lib.hid k3
      have HEM2 := Lib.hid (fun a c W (h : Rd W a (vmap mx us vs)) (h' : Rd W B vs) => (by have := HEM.out a c W h h'; rwa [k1] at this : Calls Try.prog 41 #[.slice a (vmap mx us vs).length c, .slice B vs.length d] W fun e w' => e = .returned (.bool i) ∧ Below W.heap.size W w'))
      have HEQ2 := Lib.hid (fun W (h : Rd W A us) (h' : Rd W B vs) => (by have := HEQ.out W h h'; rwa [k2] at this : Calls Try.prog 41 #[.slice A us.length c, .slice B vs.length d] W fun e w' => e = .returned (.bool (i && j)) ∧ Below W.heap.size W w'))
      clear k1 k2 k3 HLaw HEM HEQ HVu HVv HSE
      go_wp2_with fail
      refine (HD2.out _ HB5.out).mono ?_
      rintro e w6 ⟨⟨D, dd, ds, s, t, rfl, hd, hdl⟩, b6⟩
      clear hd hdl hii hie
      have HB6 := Lib.hid (HB5.out.trans (b6.mono hz5))
      have hz6 := HB6.out.size
      have HU_6 := Lib.hid (Rd.below HU_5.out b6)
      have HV_6 := Lib.hid (Rd.below HV_5.out b6)
      clear HB5 hz5 b6 HU_5 HV_5
      obtain ⟨w7, hw7⟩ : ∃ w7, w7 = w6.alloc (.cells #[.int .i64 s, .int .i64 t] 25) := ⟨_, rfl⟩
      have b7 : Below w6.heap.size w6 w7 := by rw [hw7]; exact (Below.refl _ _).alloc (Nat.le_refl _) _
      have X_7 := Lib.hid (by rw [hw7]; exact Bs.new w6 s t 25 : Bs w6.heap.size s t w7)
      have HW := Lib.hid hw7
      clear hw7
      have HB7 := Lib.hid (HB6.out.trans (b7.mono hz6))
      have hz7 := HB7.out.size
      have HU_7 := Lib.hid (Rd.below HU_6.out b7)
      have HV_7 := Lib.hid (Rd.below HV_6.out b7)
      clear HB6 hz6 b7 HU_6 HV_6
      have hK3 := HK3.out s t
      have hCU := HCU.out s t
      have hCV := HCV.out s t
      generalize vcon us s t = cu at hCU hK3
      generalize vcon vs s t = cv at hCV hK3
      have hway : i = false ∨ (i = true ∧ cu = false) ∨ (i = true ∧ cu = true ∧ cv = true) := by cases i <;> cases cu <;> cases cv <;> simp_all
      have HCU2 := Lib.hid hCU
      have HCV2 := Lib.hid hCV
      clear hCU hCV hK3 HK3 HCU HCV HD2
      rcases hway with rfl | ⟨rfl, rfl⟩ | ⟨rfl, rfl, rfl⟩
      · skip
        obtain ⟨x0, x1, x2⟩ := id X_7.out
        rw [HW.out] at x0 x1 x2
        go_wp2_with fail
        rw [← HW.out]
        refine (HMx.out _ HU_7.out HV_7.out).mono ?_
        rintro e w8 ⟨aM, cM, rfl, rowM, b8⟩
        clear x0 x1 x2
        have HB8 := Lib.hid (HB7.out.trans (b8.mono hz7))
        have hz8 := HB8.out.size
        have HU_8 := Lib.hid (Rd.below HU_7.out b8)
        have HV_8 := Lib.hid (Rd.below HV_7.out b8)
        have X_8 := Lib.hid (Bs.below X_7.out b8)
        clear HB7 hz7 b8 HU_7 HV_7 X_7
        have HM_8 := Lib.hid rowM.rd
        clear rowM
        obtain ⟨x0, x1, x2⟩ := id X_8.out
        go_wp2_with fail
        refine (HEM2.out _ _ _ HM_8.out HV_8.out).mono ?_
        rintro e w9 ⟨rfl, b9⟩
        clear x0 x1 x2
        have HB9 := Lib.hid (HB8.out.trans (b9.mono hz8))
        have hz9 := HB9.out.size
        have HU_9 := Lib.hid (Rd.below HU_8.out b9)
        have HV_9 := Lib.hid (Rd.below HV_8.out b9)
        have HM_9 := Lib.hid (Rd.below HM_8.out b9)
        have X_9 := Lib.hid (Bs.below X_8.out b9)
        clear HB8 hz8 b9 HU_8 HV_8 HM_8 X_8
        clear HM_9
        obtain ⟨x0, x1, x2⟩ := id X_9.out
        go_wp2_with fail
        refine (HEQ2.out _ HU_9.out HV_9.out).mono ?_
        rintro e w10 ⟨rfl, b10⟩
        clear x0 x1 x2
        have HB10 := Lib.hid (HB9.out.trans (b10.mono hz9))
        have hz10 := HB10.out.size
        have HU_10 := Lib.hid (Rd.below HU_9.out b10)
        have HV_10 := Lib.hid (Rd.below HV_9.out b10)
        have X_10 := Lib.hid (Bs.below X_9.out b10)
        clear HB9 hz9 b10 HU_9 HV_9 X_9
        obtain ⟨x0, x1, x2⟩ := id X_10.out
        go_wp2
        go_ret
        exact ⟨rfl, HB10.out⟩
      · skip
        obtain ⟨x0, x1, x2⟩ := id X_7.out
        rw [HW.out] at x0 x1 x2
        go_wp2_with fail
        rw [← HW.out]
        refine (HMx.out _ HU_7.out HV_7.out).mono ?_
        rintro e w8 ⟨aM, cM, rfl, rowM, b8⟩
        clear x0 x1 x2
        have HB8 := Lib.hid (HB7.out.trans (b8.mono hz7))
        have hz8 := HB8.out.size
        have HU_8 := Lib.hid (Rd.below HU_7.out b8)
        have HV_8 := Lib.hid (Rd.below HV_7.out b8)
        have X_8 := Lib.hid (Bs.below X_7.out b8)
        clear HB7 hz7 b8 HU_7 HV_7 X_7
        have HM_8 := Lib.hid rowM.rd
        clear rowM
        obtain ⟨x0, x1, x2⟩ := id X_8.out
        go_wp2_with fail
        refine (HEM2.out _ _ _ HM_8.out HV_8.out).mono ?_
        rintro e w9 ⟨rfl, b9⟩
        clear x0 x1 x2
        have HB9 := Lib.hid (HB8.out.trans (b9.mono hz8))
        have hz9 := HB9.out.size
        have HU_9 := Lib.hid (Rd.below HU_8.out b9)
        have HV_9 := Lib.hid (Rd.below HV_8.out b9)
        have HM_9 := Lib.hid (Rd.below HM_8.out b9)
        have X_9 := Lib.hid (Bs.below X_8.out b9)
        clear HB8 hz8 b9 HU_8 HV_8 HM_8 X_8
        clear HM_9
        obtain ⟨x0, x1, x2⟩ := id X_9.out
        go_wp2_with fail
        refine (HCU2.out _ HU_9.out).mono ?_
        rintro e w10 ⟨rfl, b10⟩
        clear x0 x1 x2
        have HB10 := Lib.hid (HB9.out.trans (b10.mono hz9))
        have hz10 := HB10.out.size
        have HU_10 := Lib.hid (Rd.below HU_9.out b10)
        have HV_10 := Lib.hid (Rd.below HV_9.out b10)
        have X_10 := Lib.hid (Bs.below X_9.out b10)
        clear HB9 hz9 b10 HU_9 HV_9 X_9
        obtain ⟨x0, x1, x2⟩ := id X_10.out
        go_wp2_with fail
        refine (HGE.out _ HV_10.out HU_10.out).mono ?_
        rintro e w11 ⟨rfl, b11⟩
        clear x0 x1 x2
        have HB11 := Lib.hid (HB10.out.trans (b11.mono hz10))
        have hz11 := HB11.out.size
        have HU_11 := Lib.hid (Rd.below HU_10.out b11)
        have HV_11 := Lib.hid (Rd.below HV_10.out b11)
        have X_11 := Lib.hid (Bs.below X_10.out b11)
        clear HB10 hz10 b11 HU_10 HV_10 X_10
        obtain ⟨x0, x1, x2⟩ := id X_11.out
        go_wp2_with fail
        refine (HEQ2.out _ HU_11.out HV_11.out).mono ?_
        rintro e w12 ⟨rfl, b12⟩
        clear x0 x1 x2
        have HB12 := Lib.hid (HB11.out.trans (b12.mono hz11))
        have hz12 := HB12.out.size
        have HU_12 := Lib.hid (Rd.below HU_11.out b12)
        have HV_12 := Lib.hid (Rd.below HV_11.out b12)
        have X_12 := Lib.hid (Bs.below X_11.out b12)
        clear HB11 hz11 b12 HU_11 HV_11 X_11
        cases j
        · skip
          obtain ⟨x0, x1, x2⟩ := id X_12.out
          go_wp2
          go_ret
          exact ⟨rfl, HB12.out⟩
        · skip
          obtain ⟨x0, x1, x2⟩ := id X_12.out
          go_wp2
          go_ret
          exact ⟨rfl, HB12.out⟩
      · skip
        obtain ⟨x0, x1, x2⟩ := id X_7.out
        rw [HW.out] at x0 x1 x2
        go_wp2_with fail
        rw [← HW.out]
        refine (HMx.out _ HU_7.out HV_7.out).mono ?_
        rintro e w8 ⟨aM, cM, rfl, rowM, b8⟩
        clear x0 x1 x2
        have HB8 := Lib.hid (HB7.out.trans (b8.mono hz7))
        have hz8 := HB8.out.size
        have HU_8 := Lib.hid (Rd.below HU_7.out b8)
        have HV_8 := Lib.hid (Rd.below HV_7.out b8)
        have X_8 := Lib.hid (Bs.below X_7.out b8)
        clear HB7 hz7 b8 HU_7 HV_7 X_7
        have HM_8 := Lib.hid rowM.rd
        clear rowM
        obtain ⟨x0, x1, x2⟩ := id X_8.out
        go_wp2_with fail
        refine (HEM2.out _ _ _ HM_8.out HV_8.out).mono ?_
        rintro e w9 ⟨rfl, b9⟩
        clear x0 x1 x2
        have HB9 := Lib.hid (HB8.out.trans (b9.mono hz8))
        have hz9 := HB9.out.size
        have HU_9 := Lib.hid (Rd.below HU_8.out b9)
        have HV_9 := Lib.hid (Rd.below HV_8.out b9)
        have HM_9 := Lib.hid (Rd.below HM_8.out b9)
        have X_9 := Lib.hid (Bs.below X_8.out b9)
        clear HB8 hz8 b9 HU_8 HV_8 HM_8 X_8
        clear HM_9
        obtain ⟨x0, x1, x2⟩ := id X_9.out
        go_wp2_with fail
        refine (HCU2.out _ HU_9.out).mono ?_
        rintro e w10 ⟨rfl, b10⟩
        clear x0 x1 x2
        have HB10 := Lib.hid (HB9.out.trans (b10.mono hz9))
        have hz10 := HB10.out.size
        have HU_10 := Lib.hid (Rd.below HU_9.out b10)
        have HV_10 := Lib.hid (Rd.below HV_9.out b10)
        have X_10 := Lib.hid (Bs.below X_9.out b10)
        clear HB9 hz9 b10 HU_9 HV_9 X_9
        obtain ⟨x0, x1, x2⟩ := id X_10.out
        go_wp2_with fail
        refine (HCV2.out _ HV_10.out).mono ?_
        rintro e w11 ⟨rfl, b11⟩
        clear x0 x1 x2
        have HB11 := Lib.hid (HB10.out.trans (b11.mono hz10))
        have hz11 := HB11.out.size
        have HU_11 := Lib.hid (Rd.below HU_10.out b11)
        have HV_11 := Lib.hid (Rd.below HV_10.out b11)
        have X_11 := Lib.hid (Bs.below X_10.out b11)
        clear HB10 hz10 b11 HU_10 HV_10 X_10
        obtain ⟨x0, x1, x2⟩ := id X_11.out
        go_wp2_with fail
        refine (HGE.out _ HV_11.out HU_11.out).mono ?_
        rintro e w12 ⟨rfl, b12⟩
        clear x0 x1 x2
        have HB12 := Lib.hid (HB11.out.trans (b12.mono hz11))
        have hz12 := HB12.out.size
        have HU_12 := Lib.hid (Rd.below HU_11.out b12)
        have HV_12 := Lib.hid (Rd.below HV_11.out b12)
        have X_12 := Lib.hid (Bs.below X_11.out b12)
        clear HB11 hz11 b12 HU_11 HV_11 X_11
        obtain ⟨x0, x1, x2⟩ := id X_12.out
        go_wp2_with fail
        refine (HEQ2.out _ HU_12.out HV_12.out).mono ?_
        rintro e w13 ⟨rfl, b13⟩
        clear x0 x1 x2
        have HB13 := Lib.hid (HB12.out.trans (b13.mono hz12))
        have hz13 := HB13.out.size
        have HU_13 := Lib.hid (Rd.below HU_12.out b13)
        have HV_13 := Lib.hid (Rd.below HV_12.out b13)
        have X_13 := Lib.hid (Bs.below X_12.out b13)
        clear HB12 hz12 b13 HU_12 HV_12 X_12
        cases j
        · skip
          obtain ⟨x0, x1, x2⟩ := id X_13.out
          go_wp2
          go_ret
          exact ⟨rfl, HB13.out⟩
        · skip
          obtain ⟨x0, x1, x2⟩ := id X_13.out
          go_wp2
          go_ret
          exact ⟨rfl, HB13.out⟩

end Go.Proofs.Ytlogpbejfifgdaa.VdG
