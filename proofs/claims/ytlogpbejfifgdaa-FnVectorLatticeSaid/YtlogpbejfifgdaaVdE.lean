/-
  The walk of the law FnVectorLattice: it returns true, whatever the bytes. No condition.
-/
import Derived.Test.YtlogpbejfifgdaaVdB
import Derived.Test.YtlogpbejfifgdaaVdC
import Derived.Test.YtlogpbejfifgdaaK3
import Derived.Test.YtlogpbejfifgdaaK2
import Derived.Outline
namespace Go.Proofs.Ytlogpbejfifgdaa.VdE
open Go.RowKit Go.Proofs.Ytlogpbejfifgdaa.Base Go.Proofs.Ytlogpbejfifgdaa.St Go.Proofs.Ytlogpbejfifgdaa.StB Go.Proofs.Ytlogpbejfifgdaa.Vec Go.Proofs.Ytlogpbejfifgdaa.Row Go.Proofs.Ytlogpbejfifgdaa.RowB Go.Proofs.Ytlogpbejfifgdaa.RowC Go.Proofs.Ytlogpbejfifgdaa.VecA Go.Proofs.Ytlogpbejfifgdaa.VecC Go.Proofs.Ytlogpbejfifgdaa.VecD Go.Proofs.Ytlogpbejfifgdaa.VecE Go.Proofs.Ytlogpbejfifgdaa.RdA Go.Proofs.Ytlogpbejfifgdaa.RdB Go.Proofs.Ytlogpbejfifgdaa.RdC Go.Proofs.Ytlogpbejfifgdaa.RdD Go.Proofs.Ytlogpbejfifgdaa.VdA Go.Proofs.Ytlogpbejfifgdaa.VdB Go.Proofs.Ytlogpbejfifgdaa.VdC Go.Proofs.Ytlogpbejfifgdaa.LgF
set_option linter.unusedVariables false
attribute [local go_sem ↓] Go.wp_at_zero Go.wp_at_succ
attribute [local irreducible] Go.wpQuiet

/-- The box of a stamp stands at block k. -/
def Bs (k : Nat) (s t : Int) (W : World) : Prop := k < W.heap.size ∧ W.cell? ⟨k, 0, none⟩ = some (.int .i64 s) ∧ W.cell? ⟨k, 1, none⟩ = some (.int .i64 t)
theorem Bs.new (w : World) (s t : Int) (T : TypeId) : Bs w.heap.size s t (w.alloc (.cells #[.int .i64 s, .int .i64 t] T)) := by
  refine ⟨by simp, ?_⟩
  simp [go_sem]
theorem Bs.below {k : Nat} {s t : Int} {W W' : World} (h : Bs k s t W) (hb : Below W.heap.size W W') : Bs k s t W' := by
  obtain ⟨h0, h1, h2⟩ := h
  have := hb.size
  exact ⟨by omega, (hb.cell (p := ⟨k, 0, none⟩) h0).trans h1, (hb.cell (p := ⟨k, 1, none⟩) h0).trans h2⟩
theorem eqSelf (a a' : Option Addr) (c c' : Nat) (xs : List Int) (w : World) (hx : Rd w a xs) (hy : Rd w a' xs) (hl : xs.length ≤ 1048576) :
    Calls Try.prog 41 #[.slice a xs.length c, .slice a' xs.length c'] w fun e w' => e = .returned (.bool true) ∧ Below w.heap.size w w' := by
  have h := equalInts a a' c c' xs xs w hx hy hl hl
  rwa [decide_eq_true rfl] at h
theorem spec_ValidVec (a : Option Addr) (c : Nat) (zs : List Int) (w : World) (hr : Rd w a zs) (hl : zs.length ≤ 1048576) :
    Calls Try.prog 45 #[.slice a zs.length c] w fun e w' => e = .returned (.bool (vv zs)) ∧ Below w.heap.size w w' := (spec_ValidVector a c zs w hr hl).mono fun e w' h => by
  obtain ⟨h1, h2⟩ := h
  exact ⟨h1, by first | exact h2 | (subst h2; exact Below.refl _ _)⟩
theorem gives_rd {w w' : World} {zs : List Int} {a : Option Addr} {c : Nat} (h : RowF w.heap.size w' a c zs.length (fun i => zs.getD i 0)) : Rd w' a zs := h.rd

set_option maxRecDepth 100000 in
set_option maxHeartbeats 4000000 in
theorem walk (a0 : Option Addr) (len0 cap0 : Nat) (z0 : List Int) (a1 : Option Addr) (len1 cap1 : Nat) (z1 : List Int) (w : World) (r0 : IsRow .u8 w a0 len0 cap0 z0) (r1 : IsRow .u8 w a1 len1 cap1 z1) :
    Calls Try.prog 9 #[.slice a0 len0 cap0, .slice a1 len1 cap1] w fun e w' => e = .returned (.bool true) ∧ Below w.heap.size w w' := by
  obtain ⟨xs, rfl, hx, rx⟩ := bytes_rd r0
  obtain ⟨ys, rfl, hy, ry⟩ := bytes_rd r1
  clear r0 r1
  by_cases l0 : (1048576 : Int) < (xs.length : Int)
  · clear rx ry
    go_enter Try.func9, Try.ntmps9
    go_wp2
    go_ret
    exact ⟨rfl, Below.refl _ _⟩
  by_cases l1 : (1048576 : Int) < (ys.length : Int)
  · clear rx ry
    go_enter Try.func9, Try.ntmps9
    go_wp2
    go_ret
    exact ⟨rfl, Below.refl _ _⟩
  have HD := Lib.hid (drawMax a0 cap0 xs w rx hx)
  have HD2 := Lib.hid (fun W (hb : Below w.heap.size w W) => drawContains a1 cap1 ys W (rdb_below ry hb) hy)
  clear rx hx ry hy
  go_enter Try.func9, Try.ntmps9
  go_wp2_with fail
  refine HD.out.mono ?_
  rintro e w1 ⟨⟨A, c, us, B, d, vs, rfl, hu, hv, hul, hvl⟩, b1⟩
  have HB1 := Lib.hid b1
  have hz1 := b1.size
  have HU_1 := Lib.hid hu
  have HV_1 := Lib.hid hv
  have hul2 : us.length ≤ 1048576 := by omega
  have hvl2 : vs.length ≤ 1048576 := by omega
  clear hu hv b1 HD l0 l1 hul hvl
  have HMx := Lib.hid (fun W (h : Rd W A us) (h' : Rd W B vs) => impl_VectorMax A B c d us vs W h h' hul2 hvl2)
  have HMn := Lib.hid (fun W (h : Rd W A us) (h' : Rd W B vs) => impl_VectorMin A B c d us vs W h h' hul2 hvl2)
  have HSx := Lib.hid (fun W (h : Rd W A us) (h' : Rd W B vs) => spec_VectorMax A B c d us vs W h h' hul2 hvl2)
  have HSn := Lib.hid (fun W (h : Rd W A us) (h' : Rd W B vs) => spec_VectorMin A B c d us vs W h h' hul2 hvl2)
  have HRx := Lib.hid (fun W (h : Rd W B vs) (h' : Rd W A us) => impl_VectorMax B A d c vs us W h h' hvl2 hul2)
  have HRn := Lib.hid (fun W (h : Rd W B vs) (h' : Rd W A us) => impl_VectorMin B A d c vs us W h h' hvl2 hul2)
  have hVi := fun W (h : Rd W A us) => impl_ValidVector A c us W h hul2
  have hVs := fun W (h : Rd W A us) => spec_ValidVec A c us W h hul2
  obtain ⟨p, hp⟩ : ∃ p, vv us = p := ⟨_, rfl⟩
  obtain ⟨q, hq⟩ : ∃ q, vv vs = q := ⟨_, rfl⟩
  rw [hp] at hVi hVs
  have HVi := Lib.hid hVi
  have HVs := Lib.hid hVs
  have hbad : (p && q) = false → vmap mx us vs = [] ∧ vmap mn us vs = [] := fun h => by unfold vmap; rw [hp, hq, h]; exact ⟨rfl, rfl⟩
  have HBad := Lib.hid hbad
  have HGood := Lib.hid (fun (h : (p && q) = true) => lattice_law (xs := us) (ys := vs) (by rw [hp]; cases p <;> simp_all) (by rw [hq]; cases q <;> simp_all))
  have hM := vmap_len mx us vs
  have hL := vmap_len mn us vs
  obtain ⟨M, hM0⟩ : ∃ M, vmap mx us vs = M := ⟨_, rfl⟩
  obtain ⟨N, hN0⟩ : ∃ N, vmap mn us vs = N := ⟨_, rfl⟩
  rw [hM0] at HMx HSx HBad HGood hM
  rw [hN0] at HMn HSn HBad HGood hL
  have HEM := Lib.hid (fun a b c d W (h : Rd W a M) (h' : Rd W b M) => eqSelf a b c d M W h h' (by omega))
  have HEN := Lib.hid (fun a b c d W (h : Rd W a N) (h' : Rd W b N) => eqSelf a b c d N W h h' (by omega))
  have HCU := Lib.hid (fun s t W (h : Rd W A us) => impl_VectorContains A c us s t W h hul2)
  have HCV := Lib.hid (fun s t W (h : Rd W B vs) => impl_VectorContains B d vs s t W h hvl2)
  have HCM := Lib.hid (fun a c s t W (h : Rd W a M) => impl_VectorContains a c M s t W h (by omega))
  have HCN := Lib.hid (fun a c s t W (h : Rd W a N) => impl_VectorContains a c N s t W h (by omega))
  have HLE := Lib.hid (fun a b c d W (h : Rd W a N) (h' : Rd W b M) => impl_VectorLessEqual a b c d N M W h h' (by omega) (by omega))
  clear hVi hVs hbad hp hq hM0 hN0 hM hL hul2 hvl2
  go_wp2_with fail
  refine (HMx.out _ HU_1.out HV_1.out).mono ?_
  rintro e w2 ⟨aM, cM, rfl, rowM, b2⟩
  have HB2 := Lib.hid (HB1.out.trans (b2.mono hz1))
  have hz2 := HB2.out.size
  have HU_2 := Lib.hid (Rd.below HU_1.out b2)
  have HV_2 := Lib.hid (Rd.below HV_1.out b2)
  clear HB1 hz1 b2 HU_1 HV_1
  have HM_2 := Lib.hid rowM.rd
  clear rowM
  go_wp2_with fail
  refine (HMn.out _ HU_2.out HV_2.out).mono ?_
  rintro e w3 ⟨aN, cN, rfl, rowN, b3⟩
  have HB3 := Lib.hid (HB2.out.trans (b3.mono hz2))
  have hz3 := HB3.out.size
  have HU_3 := Lib.hid (Rd.below HU_2.out b3)
  have HV_3 := Lib.hid (Rd.below HV_2.out b3)
  have HM_3 := Lib.hid (Rd.below HM_2.out b3)
  clear HB2 hz2 b3 HU_2 HV_2 HM_2
  have HN_3 := Lib.hid rowN.rd
  clear rowN
  go_wp2_with fail
  refine (HSx.out _ HU_3.out HV_3.out).mono ?_
  rintro e w4 ⟨aP, cP, rfl, rowP, b4⟩
  have HB4 := Lib.hid (HB3.out.trans (b4.mono hz3))
  have hz4 := HB4.out.size
  have HU_4 := Lib.hid (Rd.below HU_3.out b4)
  have HV_4 := Lib.hid (Rd.below HV_3.out b4)
  have HM_4 := Lib.hid (Rd.below HM_3.out b4)
  have HN_4 := Lib.hid (Rd.below HN_3.out b4)
  clear HB3 hz3 b4 HU_3 HV_3 HM_3 HN_3
  have HP_4 := Lib.hid rowP.rd
  clear rowP
  go_wp2_with fail
  refine (HEM.out _ _ _ _ _ HM_4.out HP_4.out).mono ?_
  rintro e w5 ⟨rfl, b5⟩
  have HB5 := Lib.hid (HB4.out.trans (b5.mono hz4))
  have hz5 := HB5.out.size
  have HU_5 := Lib.hid (Rd.below HU_4.out b5)
  have HV_5 := Lib.hid (Rd.below HV_4.out b5)
  have HM_5 := Lib.hid (Rd.below HM_4.out b5)
  have HN_5 := Lib.hid (Rd.below HN_4.out b5)
  have HP_5 := Lib.hid (Rd.below HP_4.out b5)
  clear HB4 hz4 b5 HU_4 HV_4 HM_4 HN_4 HP_4
  clear HP_5
  go_wp2_with fail
  refine (HSn.out _ HU_5.out HV_5.out).mono ?_
  rintro e w6 ⟨aP, cP, rfl, rowP, b6⟩
  have HB6 := Lib.hid (HB5.out.trans (b6.mono hz5))
  have hz6 := HB6.out.size
  have HU_6 := Lib.hid (Rd.below HU_5.out b6)
  have HV_6 := Lib.hid (Rd.below HV_5.out b6)
  have HM_6 := Lib.hid (Rd.below HM_5.out b6)
  have HN_6 := Lib.hid (Rd.below HN_5.out b6)
  clear HB5 hz5 b6 HU_5 HV_5 HM_5 HN_5
  have HP_6 := Lib.hid rowP.rd
  clear rowP
  go_wp2_with fail
  refine (HEN.out _ _ _ _ _ HN_6.out HP_6.out).mono ?_
  rintro e w7 ⟨rfl, b7⟩
  have HB7 := Lib.hid (HB6.out.trans (b7.mono hz6))
  have hz7 := HB7.out.size
  have HU_7 := Lib.hid (Rd.below HU_6.out b7)
  have HV_7 := Lib.hid (Rd.below HV_6.out b7)
  have HM_7 := Lib.hid (Rd.below HM_6.out b7)
  have HN_7 := Lib.hid (Rd.below HN_6.out b7)
  have HP_7 := Lib.hid (Rd.below HP_6.out b7)
  clear HB6 hz6 b7 HU_6 HV_6 HM_6 HN_6 HP_6
  clear HP_7
  go_wp2_with fail
  refine (HVi.out _ HU_7.out).mono ?_
  rintro e w8 ⟨rfl, b8⟩
  have HB8 := Lib.hid (HB7.out.trans (b8.mono hz7))
  have hz8 := HB8.out.size
  have HU_8 := Lib.hid (Rd.below HU_7.out b8)
  have HV_8 := Lib.hid (Rd.below HV_7.out b8)
  have HM_8 := Lib.hid (Rd.below HM_7.out b8)
  have HN_8 := Lib.hid (Rd.below HN_7.out b8)
  clear HB7 hz7 b8 HU_7 HV_7 HM_7 HN_7
  go_wp2_with fail
  refine (HVs.out _ HU_8.out).mono ?_
  rintro e w9 ⟨rfl, b9⟩
  have HB9 := Lib.hid (HB8.out.trans (b9.mono hz8))
  have hz9 := HB9.out.size
  have HU_9 := Lib.hid (Rd.below HU_8.out b9)
  have HV_9 := Lib.hid (Rd.below HV_8.out b9)
  have HM_9 := Lib.hid (Rd.below HM_8.out b9)
  have HN_9 := Lib.hid (Rd.below HN_8.out b9)
  clear HB8 hz8 b9 HU_8 HV_8 HM_8 HN_8
  cases hpq : (p && q)
  · obtain ⟨rfl, rfl⟩ := HBad.out hpq
    have hpp : (p != p) = false := by cases p <;> rfl
    have hpe : (p == p) = true := by cases p <;> rfl
    clear hpq
    go_wp2_with fail
    refine (HSx.out _ HU_9.out HV_9.out).mono ?_
    rintro e w10 ⟨aP, cP, rfl, rowP, b10⟩
    have HB10 := Lib.hid (HB9.out.trans (b10.mono hz9))
    have hz10 := HB10.out.size
    have HU_10 := Lib.hid (Rd.below HU_9.out b10)
    have HV_10 := Lib.hid (Rd.below HV_9.out b10)
    have HM_10 := Lib.hid (Rd.below HM_9.out b10)
    have HN_10 := Lib.hid (Rd.below HN_9.out b10)
    clear HB9 hz9 b10 HU_9 HV_9 HM_9 HN_9
    have HP_10 := Lib.hid rowP.rd
    clear rowP
    go_wp2_with fail
    refine (HEM.out _ _ _ _ _ HM_10.out HP_10.out).mono ?_
    rintro e w11 ⟨rfl, b11⟩
    have HB11 := Lib.hid (HB10.out.trans (b11.mono hz10))
    have hz11 := HB11.out.size
    have HU_11 := Lib.hid (Rd.below HU_10.out b11)
    have HV_11 := Lib.hid (Rd.below HV_10.out b11)
    have HM_11 := Lib.hid (Rd.below HM_10.out b11)
    have HN_11 := Lib.hid (Rd.below HN_10.out b11)
    have HP_11 := Lib.hid (Rd.below HP_10.out b11)
    clear HB10 hz10 b11 HU_10 HV_10 HM_10 HN_10 HP_10
    clear HP_11
    go_wp2_with fail
    refine (HSn.out _ HU_11.out HV_11.out).mono ?_
    rintro e w12 ⟨aP, cP, rfl, rowP, b12⟩
    have HB12 := Lib.hid (HB11.out.trans (b12.mono hz11))
    have hz12 := HB12.out.size
    have HU_12 := Lib.hid (Rd.below HU_11.out b12)
    have HV_12 := Lib.hid (Rd.below HV_11.out b12)
    have HM_12 := Lib.hid (Rd.below HM_11.out b12)
    have HN_12 := Lib.hid (Rd.below HN_11.out b12)
    clear HB11 hz11 b12 HU_11 HV_11 HM_11 HN_11
    have HP_12 := Lib.hid rowP.rd
    clear rowP
    go_wp2_with fail
    refine (HEN.out _ _ _ _ _ HN_12.out HP_12.out).mono ?_
    rintro e w13 ⟨rfl, b13⟩
    have HB13 := Lib.hid (HB12.out.trans (b13.mono hz12))
    have hz13 := HB13.out.size
    have HU_13 := Lib.hid (Rd.below HU_12.out b13)
    have HV_13 := Lib.hid (Rd.below HV_12.out b13)
    have HM_13 := Lib.hid (Rd.below HM_12.out b13)
    have HN_13 := Lib.hid (Rd.below HN_12.out b13)
    have HP_13 := Lib.hid (Rd.below HP_12.out b13)
    clear HB12 hz12 b13 HU_12 HV_12 HM_12 HN_12 HP_12
    clear HP_13
    go_wp2_with fail
    refine (HVi.out _ HU_13.out).mono ?_
    rintro e w14 ⟨rfl, b14⟩
    have HB14 := Lib.hid (HB13.out.trans (b14.mono hz13))
    have hz14 := HB14.out.size
    have HU_14 := Lib.hid (Rd.below HU_13.out b14)
    have HV_14 := Lib.hid (Rd.below HV_13.out b14)
    have HM_14 := Lib.hid (Rd.below HM_13.out b14)
    have HN_14 := Lib.hid (Rd.below HN_13.out b14)
    clear HB13 hz13 b14 HU_13 HV_13 HM_13 HN_13
    go_wp2_with fail
    refine (HVs.out _ HU_14.out).mono ?_
    rintro e w15 ⟨rfl, b15⟩
    have HB15 := Lib.hid (HB14.out.trans (b15.mono hz14))
    have hz15 := HB15.out.size
    have HU_15 := Lib.hid (Rd.below HU_14.out b15)
    have HV_15 := Lib.hid (Rd.below HV_14.out b15)
    have HM_15 := Lib.hid (Rd.below HM_14.out b15)
    have HN_15 := Lib.hid (Rd.below HN_14.out b15)
    clear HB14 hz14 b15 HU_14 HV_14 HM_14 HN_14
    go_wp2
    go_ret
    exact ⟨rfl, HB15.out⟩
  · obtain ⟨k1, k2, k3, k4, k5, k6⟩ := HGood.out hpq
    have hpp : (p != p) = false := by cases p <;> rfl
    have hlen : ((M.length : Int) == 0) = false := by rw [k6]; rfl
    have HK1 := Lib.hid k1
    have HK2 := Lib.hid k2
    rw [k3] at HRx
    rw [k4] at HRn
    have HLE2 := Lib.hid (fun a b c d W (h : Rd W a N) (h' : Rd W b M) => (by have := HLE.out a b c d W h h'; rwa [k5] at this : Calls Try.prog 48 #[.slice a N.length c, .slice b M.length d] W fun e w' => e = .returned (.bool true) ∧ Below W.heap.size W w'))
    clear k1 k2 k3 k4 k5 k6 hpq HLE HBad HGood
    go_wp2_with fail
    refine (HD2.out _ HB9.out).mono ?_
    rintro e w10 ⟨⟨D, dd, ds, s, t, rfl, hd, hdl⟩, b10⟩
    clear hd hdl hlen hpp
    have HB10 := Lib.hid (HB9.out.trans (b10.mono hz9))
    have hz10 := HB10.out.size
    have HU_10 := Lib.hid (Rd.below HU_9.out b10)
    have HV_10 := Lib.hid (Rd.below HV_9.out b10)
    have HM_10 := Lib.hid (Rd.below HM_9.out b10)
    have HN_10 := Lib.hid (Rd.below HN_9.out b10)
    clear HB9 hz9 b10 HU_9 HV_9 HM_9 HN_9
    obtain ⟨w11, hw11⟩ : ∃ w11, w11 = w10.alloc (.cells #[.int .i64 s, .int .i64 t] 25) := ⟨_, rfl⟩
    have b11 : Below w10.heap.size w10 w11 := by rw [hw11]; exact (Below.refl _ _).alloc (Nat.le_refl _) _
    have X_11 := Lib.hid (by rw [hw11]; exact Bs.new w10 s t 25 : Bs w10.heap.size s t w11)
    have HW := Lib.hid hw11
    clear hw11
    have HB11 := Lib.hid (HB10.out.trans (b11.mono hz10))
    have hz11 := HB11.out.size
    have HU_11 := Lib.hid (Rd.below HU_10.out b11)
    have HV_11 := Lib.hid (Rd.below HV_10.out b11)
    have HM_11 := Lib.hid (Rd.below HM_10.out b11)
    have HN_11 := Lib.hid (Rd.below HN_10.out b11)
    clear HB10 hz10 b11 HU_10 HV_10 HM_10 HN_10
    have hK1 := HK1.out s t
    have hK2 := HK2.out s t
    have hCU := HCU.out s t
    have hCV := HCV.out s t
    have hCM := fun a c => HCM.out a c s t
    have hCN := fun a c => HCN.out a c s t
    rw [hK1] at hCM
    rw [hK2] at hCN
    generalize vcon us s t = cu at hCU hCM hCN
    generalize vcon vs s t = cv at hCV hCM hCN
    clear hK1 hK2 HK1 HK2 HCU HCV HCM HCN HD2
    cases cu <;> cases cv
    · have HCU := Lib.hid hCU
      have HCV := Lib.hid hCV
      have HCM := Lib.hid hCM
      have HCN := Lib.hid hCN
      clear hCU hCV hCM hCN
      obtain ⟨x0, x1, x2⟩ := id X_11.out
      rw [HW.out] at x0 x1 x2
      go_wp2_with fail
      rw [← HW.out]
      refine (HCU.out _ HU_11.out).mono ?_
      rintro e w12 ⟨rfl, b12⟩
      clear x0 x1 x2
      have HB12 := Lib.hid (HB11.out.trans (b12.mono hz11))
      have hz12 := HB12.out.size
      have HU_12 := Lib.hid (Rd.below HU_11.out b12)
      have HV_12 := Lib.hid (Rd.below HV_11.out b12)
      have HM_12 := Lib.hid (Rd.below HM_11.out b12)
      have HN_12 := Lib.hid (Rd.below HN_11.out b12)
      have X_12 := Lib.hid (Bs.below X_11.out b12)
      clear HB11 hz11 b12 HU_11 HV_11 HM_11 HN_11 X_11
      obtain ⟨x0, x1, x2⟩ := id X_12.out
      go_wp2_with fail
      refine (HCV.out _ HV_12.out).mono ?_
      rintro e w13 ⟨rfl, b13⟩
      clear x0 x1 x2
      have HB13 := Lib.hid (HB12.out.trans (b13.mono hz12))
      have hz13 := HB13.out.size
      have HU_13 := Lib.hid (Rd.below HU_12.out b13)
      have HV_13 := Lib.hid (Rd.below HV_12.out b13)
      have HM_13 := Lib.hid (Rd.below HM_12.out b13)
      have HN_13 := Lib.hid (Rd.below HN_12.out b13)
      have X_13 := Lib.hid (Bs.below X_12.out b13)
      clear HB12 hz12 b13 HU_12 HV_12 HM_12 HN_12 X_12
      obtain ⟨x0, x1, x2⟩ := id X_13.out
      go_wp2_with fail
      refine (HCU.out _ HU_13.out).mono ?_
      rintro e w14 ⟨rfl, b14⟩
      clear x0 x1 x2
      have HB14 := Lib.hid (HB13.out.trans (b14.mono hz13))
      have hz14 := HB14.out.size
      have HU_14 := Lib.hid (Rd.below HU_13.out b14)
      have HV_14 := Lib.hid (Rd.below HV_13.out b14)
      have HM_14 := Lib.hid (Rd.below HM_13.out b14)
      have HN_14 := Lib.hid (Rd.below HN_13.out b14)
      have X_14 := Lib.hid (Bs.below X_13.out b14)
      clear HB13 hz13 b14 HU_13 HV_13 HM_13 HN_13 X_13
      obtain ⟨x0, x1, x2⟩ := id X_14.out
      go_wp2_with fail
      refine (HCM.out _ _ _ HM_14.out).mono ?_
      rintro e w15 ⟨rfl, b15⟩
      clear x0 x1 x2
      have HB15 := Lib.hid (HB14.out.trans (b15.mono hz14))
      have hz15 := HB15.out.size
      have HU_15 := Lib.hid (Rd.below HU_14.out b15)
      have HV_15 := Lib.hid (Rd.below HV_14.out b15)
      have HM_15 := Lib.hid (Rd.below HM_14.out b15)
      have HN_15 := Lib.hid (Rd.below HN_14.out b15)
      have X_15 := Lib.hid (Bs.below X_14.out b15)
      clear HB14 hz14 b15 HU_14 HV_14 HM_14 HN_14 X_14
      obtain ⟨x0, x1, x2⟩ := id X_15.out
      go_wp2_with fail
      refine (HCN.out _ _ _ HN_15.out).mono ?_
      rintro e w16 ⟨rfl, b16⟩
      clear x0 x1 x2
      have HB16 := Lib.hid (HB15.out.trans (b16.mono hz15))
      have hz16 := HB16.out.size
      have HU_16 := Lib.hid (Rd.below HU_15.out b16)
      have HV_16 := Lib.hid (Rd.below HV_15.out b16)
      have HM_16 := Lib.hid (Rd.below HM_15.out b16)
      have HN_16 := Lib.hid (Rd.below HN_15.out b16)
      have X_16 := Lib.hid (Bs.below X_15.out b16)
      clear HB15 hz15 b16 HU_15 HV_15 HM_15 HN_15 X_15
      obtain ⟨x0, x1, x2⟩ := id X_16.out
      go_wp2_with fail
      refine (HRx.out _ HV_16.out HU_16.out).mono ?_
      rintro e w17 ⟨aP, cP, rfl, rowP, b17⟩
      clear x0 x1 x2
      have HB17 := Lib.hid (HB16.out.trans (b17.mono hz16))
      have hz17 := HB17.out.size
      have HU_17 := Lib.hid (Rd.below HU_16.out b17)
      have HV_17 := Lib.hid (Rd.below HV_16.out b17)
      have HM_17 := Lib.hid (Rd.below HM_16.out b17)
      have HN_17 := Lib.hid (Rd.below HN_16.out b17)
      have X_17 := Lib.hid (Bs.below X_16.out b17)
      clear HB16 hz16 b17 HU_16 HV_16 HM_16 HN_16 X_16
      have HP_17 := Lib.hid rowP.rd
      clear rowP
      obtain ⟨x0, x1, x2⟩ := id X_17.out
      go_wp2_with fail
      refine (HEM.out _ _ _ _ _ HP_17.out HM_17.out).mono ?_
      rintro e w18 ⟨rfl, b18⟩
      clear x0 x1 x2
      have HB18 := Lib.hid (HB17.out.trans (b18.mono hz17))
      have hz18 := HB18.out.size
      have HU_18 := Lib.hid (Rd.below HU_17.out b18)
      have HV_18 := Lib.hid (Rd.below HV_17.out b18)
      have HM_18 := Lib.hid (Rd.below HM_17.out b18)
      have HN_18 := Lib.hid (Rd.below HN_17.out b18)
      have HP_18 := Lib.hid (Rd.below HP_17.out b18)
      have X_18 := Lib.hid (Bs.below X_17.out b18)
      clear HB17 hz17 b18 HU_17 HV_17 HM_17 HN_17 HP_17 X_17
      clear HP_18
      obtain ⟨x0, x1, x2⟩ := id X_18.out
      go_wp2_with fail
      refine (HRn.out _ HV_18.out HU_18.out).mono ?_
      rintro e w19 ⟨aP, cP, rfl, rowP, b19⟩
      clear x0 x1 x2
      have HB19 := Lib.hid (HB18.out.trans (b19.mono hz18))
      have hz19 := HB19.out.size
      have HU_19 := Lib.hid (Rd.below HU_18.out b19)
      have HV_19 := Lib.hid (Rd.below HV_18.out b19)
      have HM_19 := Lib.hid (Rd.below HM_18.out b19)
      have HN_19 := Lib.hid (Rd.below HN_18.out b19)
      have X_19 := Lib.hid (Bs.below X_18.out b19)
      clear HB18 hz18 b19 HU_18 HV_18 HM_18 HN_18 X_18
      have HP_19 := Lib.hid rowP.rd
      clear rowP
      obtain ⟨x0, x1, x2⟩ := id X_19.out
      go_wp2_with fail
      refine (HEN.out _ _ _ _ _ HP_19.out HN_19.out).mono ?_
      rintro e w20 ⟨rfl, b20⟩
      clear x0 x1 x2
      have HB20 := Lib.hid (HB19.out.trans (b20.mono hz19))
      have hz20 := HB20.out.size
      have HU_20 := Lib.hid (Rd.below HU_19.out b20)
      have HV_20 := Lib.hid (Rd.below HV_19.out b20)
      have HM_20 := Lib.hid (Rd.below HM_19.out b20)
      have HN_20 := Lib.hid (Rd.below HN_19.out b20)
      have HP_20 := Lib.hid (Rd.below HP_19.out b20)
      have X_20 := Lib.hid (Bs.below X_19.out b20)
      clear HB19 hz19 b20 HU_19 HV_19 HM_19 HN_19 HP_19 X_19
      clear HP_20
      obtain ⟨x0, x1, x2⟩ := id X_20.out
      go_wp2_with fail
      refine (HLE2.out _ _ _ _ _ HN_20.out HM_20.out).mono ?_
      rintro e w21 ⟨rfl, b21⟩
      clear x0 x1 x2
      have HB21 := Lib.hid (HB20.out.trans (b21.mono hz20))
      have hz21 := HB21.out.size
      have HU_21 := Lib.hid (Rd.below HU_20.out b21)
      have HV_21 := Lib.hid (Rd.below HV_20.out b21)
      have HM_21 := Lib.hid (Rd.below HM_20.out b21)
      have HN_21 := Lib.hid (Rd.below HN_20.out b21)
      have X_21 := Lib.hid (Bs.below X_20.out b21)
      clear HB20 hz20 b21 HU_20 HV_20 HM_20 HN_20 X_20
      obtain ⟨x0, x1, x2⟩ := id X_21.out
      go_wp2
      go_ret
      exact ⟨rfl, HB21.out⟩
    · have HCU := Lib.hid hCU
      have HCV := Lib.hid hCV
      have HCM := Lib.hid hCM
      have HCN := Lib.hid hCN
      clear hCU hCV hCM hCN
      obtain ⟨x0, x1, x2⟩ := id X_11.out
      rw [HW.out] at x0 x1 x2
      go_wp2_with fail
      rw [← HW.out]
      refine (HCU.out _ HU_11.out).mono ?_
      rintro e w12 ⟨rfl, b12⟩
      clear x0 x1 x2
      have HB12 := Lib.hid (HB11.out.trans (b12.mono hz11))
      have hz12 := HB12.out.size
      have HU_12 := Lib.hid (Rd.below HU_11.out b12)
      have HV_12 := Lib.hid (Rd.below HV_11.out b12)
      have HM_12 := Lib.hid (Rd.below HM_11.out b12)
      have HN_12 := Lib.hid (Rd.below HN_11.out b12)
      have X_12 := Lib.hid (Bs.below X_11.out b12)
      clear HB11 hz11 b12 HU_11 HV_11 HM_11 HN_11 X_11
      obtain ⟨x0, x1, x2⟩ := id X_12.out
      go_wp2_with fail
      refine (HCV.out _ HV_12.out).mono ?_
      rintro e w13 ⟨rfl, b13⟩
      clear x0 x1 x2
      have HB13 := Lib.hid (HB12.out.trans (b13.mono hz12))
      have hz13 := HB13.out.size
      have HU_13 := Lib.hid (Rd.below HU_12.out b13)
      have HV_13 := Lib.hid (Rd.below HV_12.out b13)
      have HM_13 := Lib.hid (Rd.below HM_12.out b13)
      have HN_13 := Lib.hid (Rd.below HN_12.out b13)
      have X_13 := Lib.hid (Bs.below X_12.out b13)
      clear HB12 hz12 b13 HU_12 HV_12 HM_12 HN_12 X_12
      obtain ⟨x0, x1, x2⟩ := id X_13.out
      go_wp2_with fail
      refine (HCU.out _ HU_13.out).mono ?_
      rintro e w14 ⟨rfl, b14⟩
      clear x0 x1 x2
      have HB14 := Lib.hid (HB13.out.trans (b14.mono hz13))
      have hz14 := HB14.out.size
      have HU_14 := Lib.hid (Rd.below HU_13.out b14)
      have HV_14 := Lib.hid (Rd.below HV_13.out b14)
      have HM_14 := Lib.hid (Rd.below HM_13.out b14)
      have HN_14 := Lib.hid (Rd.below HN_13.out b14)
      have X_14 := Lib.hid (Bs.below X_13.out b14)
      clear HB13 hz13 b14 HU_13 HV_13 HM_13 HN_13 X_13
      obtain ⟨x0, x1, x2⟩ := id X_14.out
      go_wp2_with fail
      refine (HCM.out _ _ _ HM_14.out).mono ?_
      rintro e w15 ⟨rfl, b15⟩
      clear x0 x1 x2
      have HB15 := Lib.hid (HB14.out.trans (b15.mono hz14))
      have hz15 := HB15.out.size
      have HU_15 := Lib.hid (Rd.below HU_14.out b15)
      have HV_15 := Lib.hid (Rd.below HV_14.out b15)
      have HM_15 := Lib.hid (Rd.below HM_14.out b15)
      have HN_15 := Lib.hid (Rd.below HN_14.out b15)
      have X_15 := Lib.hid (Bs.below X_14.out b15)
      clear HB14 hz14 b15 HU_14 HV_14 HM_14 HN_14 X_14
      obtain ⟨x0, x1, x2⟩ := id X_15.out
      go_wp2_with fail
      refine (HCN.out _ _ _ HN_15.out).mono ?_
      rintro e w16 ⟨rfl, b16⟩
      clear x0 x1 x2
      have HB16 := Lib.hid (HB15.out.trans (b16.mono hz15))
      have hz16 := HB16.out.size
      have HU_16 := Lib.hid (Rd.below HU_15.out b16)
      have HV_16 := Lib.hid (Rd.below HV_15.out b16)
      have HM_16 := Lib.hid (Rd.below HM_15.out b16)
      have HN_16 := Lib.hid (Rd.below HN_15.out b16)
      have X_16 := Lib.hid (Bs.below X_15.out b16)
      clear HB15 hz15 b16 HU_15 HV_15 HM_15 HN_15 X_15
      obtain ⟨x0, x1, x2⟩ := id X_16.out
      go_wp2_with fail
      refine (HRx.out _ HV_16.out HU_16.out).mono ?_
      rintro e w17 ⟨aP, cP, rfl, rowP, b17⟩
      clear x0 x1 x2
      have HB17 := Lib.hid (HB16.out.trans (b17.mono hz16))
      have hz17 := HB17.out.size
      have HU_17 := Lib.hid (Rd.below HU_16.out b17)
      have HV_17 := Lib.hid (Rd.below HV_16.out b17)
      have HM_17 := Lib.hid (Rd.below HM_16.out b17)
      have HN_17 := Lib.hid (Rd.below HN_16.out b17)
      have X_17 := Lib.hid (Bs.below X_16.out b17)
      clear HB16 hz16 b17 HU_16 HV_16 HM_16 HN_16 X_16
      have HP_17 := Lib.hid rowP.rd
      clear rowP
      obtain ⟨x0, x1, x2⟩ := id X_17.out
      go_wp2_with fail
      refine (HEM.out _ _ _ _ _ HP_17.out HM_17.out).mono ?_
      rintro e w18 ⟨rfl, b18⟩
      clear x0 x1 x2
      have HB18 := Lib.hid (HB17.out.trans (b18.mono hz17))
      have hz18 := HB18.out.size
      have HU_18 := Lib.hid (Rd.below HU_17.out b18)
      have HV_18 := Lib.hid (Rd.below HV_17.out b18)
      have HM_18 := Lib.hid (Rd.below HM_17.out b18)
      have HN_18 := Lib.hid (Rd.below HN_17.out b18)
      have HP_18 := Lib.hid (Rd.below HP_17.out b18)
      have X_18 := Lib.hid (Bs.below X_17.out b18)
      clear HB17 hz17 b18 HU_17 HV_17 HM_17 HN_17 HP_17 X_17
      clear HP_18
      obtain ⟨x0, x1, x2⟩ := id X_18.out
      go_wp2_with fail
      refine (HRn.out _ HV_18.out HU_18.out).mono ?_
      rintro e w19 ⟨aP, cP, rfl, rowP, b19⟩
      clear x0 x1 x2
      have HB19 := Lib.hid (HB18.out.trans (b19.mono hz18))
      have hz19 := HB19.out.size
      have HU_19 := Lib.hid (Rd.below HU_18.out b19)
      have HV_19 := Lib.hid (Rd.below HV_18.out b19)
      have HM_19 := Lib.hid (Rd.below HM_18.out b19)
      have HN_19 := Lib.hid (Rd.below HN_18.out b19)
      have X_19 := Lib.hid (Bs.below X_18.out b19)
      clear HB18 hz18 b19 HU_18 HV_18 HM_18 HN_18 X_18
      have HP_19 := Lib.hid rowP.rd
      clear rowP
      obtain ⟨x0, x1, x2⟩ := id X_19.out
      go_wp2_with fail
      refine (HEN.out _ _ _ _ _ HP_19.out HN_19.out).mono ?_
      rintro e w20 ⟨rfl, b20⟩
      clear x0 x1 x2
      have HB20 := Lib.hid (HB19.out.trans (b20.mono hz19))
      have hz20 := HB20.out.size
      have HU_20 := Lib.hid (Rd.below HU_19.out b20)
      have HV_20 := Lib.hid (Rd.below HV_19.out b20)
      have HM_20 := Lib.hid (Rd.below HM_19.out b20)
      have HN_20 := Lib.hid (Rd.below HN_19.out b20)
      have HP_20 := Lib.hid (Rd.below HP_19.out b20)
      have X_20 := Lib.hid (Bs.below X_19.out b20)
      clear HB19 hz19 b20 HU_19 HV_19 HM_19 HN_19 HP_19 X_19
      clear HP_20
      obtain ⟨x0, x1, x2⟩ := id X_20.out
      go_wp2_with fail
      refine (HLE2.out _ _ _ _ _ HN_20.out HM_20.out).mono ?_
      rintro e w21 ⟨rfl, b21⟩
      clear x0 x1 x2
      have HB21 := Lib.hid (HB20.out.trans (b21.mono hz20))
      have hz21 := HB21.out.size
      have HU_21 := Lib.hid (Rd.below HU_20.out b21)
      have HV_21 := Lib.hid (Rd.below HV_20.out b21)
      have HM_21 := Lib.hid (Rd.below HM_20.out b21)
      have HN_21 := Lib.hid (Rd.below HN_20.out b21)
      have X_21 := Lib.hid (Bs.below X_20.out b21)
      clear HB20 hz20 b21 HU_20 HV_20 HM_20 HN_20 X_20
      obtain ⟨x0, x1, x2⟩ := id X_21.out
      go_wp2
      go_ret
      exact ⟨rfl, HB21.out⟩
    · have HCU := Lib.hid hCU
      have HCV := Lib.hid hCV
      have HCM := Lib.hid hCM
      have HCN := Lib.hid hCN
      clear hCU hCV hCM hCN
      obtain ⟨x0, x1, x2⟩ := id X_11.out
      rw [HW.out] at x0 x1 x2
      go_wp2_with fail
      rw [← HW.out]
      refine (HCU.out _ HU_11.out).mono ?_
      rintro e w12 ⟨rfl, b12⟩
      clear x0 x1 x2
      have HB12 := Lib.hid (HB11.out.trans (b12.mono hz11))
      have hz12 := HB12.out.size
      have HU_12 := Lib.hid (Rd.below HU_11.out b12)
      have HV_12 := Lib.hid (Rd.below HV_11.out b12)
      have HM_12 := Lib.hid (Rd.below HM_11.out b12)
      have HN_12 := Lib.hid (Rd.below HN_11.out b12)
      have X_12 := Lib.hid (Bs.below X_11.out b12)
      clear HB11 hz11 b12 HU_11 HV_11 HM_11 HN_11 X_11
      obtain ⟨x0, x1, x2⟩ := id X_12.out
      go_wp2_with fail
      refine (HCU.out _ HU_12.out).mono ?_
      rintro e w13 ⟨rfl, b13⟩
      clear x0 x1 x2
      have HB13 := Lib.hid (HB12.out.trans (b13.mono hz12))
      have hz13 := HB13.out.size
      have HU_13 := Lib.hid (Rd.below HU_12.out b13)
      have HV_13 := Lib.hid (Rd.below HV_12.out b13)
      have HM_13 := Lib.hid (Rd.below HM_12.out b13)
      have HN_13 := Lib.hid (Rd.below HN_12.out b13)
      have X_13 := Lib.hid (Bs.below X_12.out b13)
      clear HB12 hz12 b13 HU_12 HV_12 HM_12 HN_12 X_12
      obtain ⟨x0, x1, x2⟩ := id X_13.out
      go_wp2_with fail
      refine (HCV.out _ HV_13.out).mono ?_
      rintro e w14 ⟨rfl, b14⟩
      clear x0 x1 x2
      have HB14 := Lib.hid (HB13.out.trans (b14.mono hz13))
      have hz14 := HB14.out.size
      have HU_14 := Lib.hid (Rd.below HU_13.out b14)
      have HV_14 := Lib.hid (Rd.below HV_13.out b14)
      have HM_14 := Lib.hid (Rd.below HM_13.out b14)
      have HN_14 := Lib.hid (Rd.below HN_13.out b14)
      have X_14 := Lib.hid (Bs.below X_13.out b14)
      clear HB13 hz13 b14 HU_13 HV_13 HM_13 HN_13 X_13
      obtain ⟨x0, x1, x2⟩ := id X_14.out
      go_wp2_with fail
      refine (HCM.out _ _ _ HM_14.out).mono ?_
      rintro e w15 ⟨rfl, b15⟩
      clear x0 x1 x2
      have HB15 := Lib.hid (HB14.out.trans (b15.mono hz14))
      have hz15 := HB15.out.size
      have HU_15 := Lib.hid (Rd.below HU_14.out b15)
      have HV_15 := Lib.hid (Rd.below HV_14.out b15)
      have HM_15 := Lib.hid (Rd.below HM_14.out b15)
      have HN_15 := Lib.hid (Rd.below HN_14.out b15)
      have X_15 := Lib.hid (Bs.below X_14.out b15)
      clear HB14 hz14 b15 HU_14 HV_14 HM_14 HN_14 X_14
      obtain ⟨x0, x1, x2⟩ := id X_15.out
      go_wp2_with fail
      refine (HCN.out _ _ _ HN_15.out).mono ?_
      rintro e w16 ⟨rfl, b16⟩
      clear x0 x1 x2
      have HB16 := Lib.hid (HB15.out.trans (b16.mono hz15))
      have hz16 := HB16.out.size
      have HU_16 := Lib.hid (Rd.below HU_15.out b16)
      have HV_16 := Lib.hid (Rd.below HV_15.out b16)
      have HM_16 := Lib.hid (Rd.below HM_15.out b16)
      have HN_16 := Lib.hid (Rd.below HN_15.out b16)
      have X_16 := Lib.hid (Bs.below X_15.out b16)
      clear HB15 hz15 b16 HU_15 HV_15 HM_15 HN_15 X_15
      obtain ⟨x0, x1, x2⟩ := id X_16.out
      go_wp2_with fail
      refine (HRx.out _ HV_16.out HU_16.out).mono ?_
      rintro e w17 ⟨aP, cP, rfl, rowP, b17⟩
      clear x0 x1 x2
      have HB17 := Lib.hid (HB16.out.trans (b17.mono hz16))
      have hz17 := HB17.out.size
      have HU_17 := Lib.hid (Rd.below HU_16.out b17)
      have HV_17 := Lib.hid (Rd.below HV_16.out b17)
      have HM_17 := Lib.hid (Rd.below HM_16.out b17)
      have HN_17 := Lib.hid (Rd.below HN_16.out b17)
      have X_17 := Lib.hid (Bs.below X_16.out b17)
      clear HB16 hz16 b17 HU_16 HV_16 HM_16 HN_16 X_16
      have HP_17 := Lib.hid rowP.rd
      clear rowP
      obtain ⟨x0, x1, x2⟩ := id X_17.out
      go_wp2_with fail
      refine (HEM.out _ _ _ _ _ HP_17.out HM_17.out).mono ?_
      rintro e w18 ⟨rfl, b18⟩
      clear x0 x1 x2
      have HB18 := Lib.hid (HB17.out.trans (b18.mono hz17))
      have hz18 := HB18.out.size
      have HU_18 := Lib.hid (Rd.below HU_17.out b18)
      have HV_18 := Lib.hid (Rd.below HV_17.out b18)
      have HM_18 := Lib.hid (Rd.below HM_17.out b18)
      have HN_18 := Lib.hid (Rd.below HN_17.out b18)
      have HP_18 := Lib.hid (Rd.below HP_17.out b18)
      have X_18 := Lib.hid (Bs.below X_17.out b18)
      clear HB17 hz17 b18 HU_17 HV_17 HM_17 HN_17 HP_17 X_17
      clear HP_18
      obtain ⟨x0, x1, x2⟩ := id X_18.out
      go_wp2_with fail
      refine (HRn.out _ HV_18.out HU_18.out).mono ?_
      rintro e w19 ⟨aP, cP, rfl, rowP, b19⟩
      clear x0 x1 x2
      have HB19 := Lib.hid (HB18.out.trans (b19.mono hz18))
      have hz19 := HB19.out.size
      have HU_19 := Lib.hid (Rd.below HU_18.out b19)
      have HV_19 := Lib.hid (Rd.below HV_18.out b19)
      have HM_19 := Lib.hid (Rd.below HM_18.out b19)
      have HN_19 := Lib.hid (Rd.below HN_18.out b19)
      have X_19 := Lib.hid (Bs.below X_18.out b19)
      clear HB18 hz18 b19 HU_18 HV_18 HM_18 HN_18 X_18
      have HP_19 := Lib.hid rowP.rd
      clear rowP
      obtain ⟨x0, x1, x2⟩ := id X_19.out
      go_wp2_with fail
      refine (HEN.out _ _ _ _ _ HP_19.out HN_19.out).mono ?_
      rintro e w20 ⟨rfl, b20⟩
      clear x0 x1 x2
      have HB20 := Lib.hid (HB19.out.trans (b20.mono hz19))
      have hz20 := HB20.out.size
      have HU_20 := Lib.hid (Rd.below HU_19.out b20)
      have HV_20 := Lib.hid (Rd.below HV_19.out b20)
      have HM_20 := Lib.hid (Rd.below HM_19.out b20)
      have HN_20 := Lib.hid (Rd.below HN_19.out b20)
      have HP_20 := Lib.hid (Rd.below HP_19.out b20)
      have X_20 := Lib.hid (Bs.below X_19.out b20)
      clear HB19 hz19 b20 HU_19 HV_19 HM_19 HN_19 HP_19 X_19
      clear HP_20
      obtain ⟨x0, x1, x2⟩ := id X_20.out
      go_wp2_with fail
      refine (HLE2.out _ _ _ _ _ HN_20.out HM_20.out).mono ?_
      rintro e w21 ⟨rfl, b21⟩
      clear x0 x1 x2
      have HB21 := Lib.hid (HB20.out.trans (b21.mono hz20))
      have hz21 := HB21.out.size
      have HU_21 := Lib.hid (Rd.below HU_20.out b21)
      have HV_21 := Lib.hid (Rd.below HV_20.out b21)
      have HM_21 := Lib.hid (Rd.below HM_20.out b21)
      have HN_21 := Lib.hid (Rd.below HN_20.out b21)
      have X_21 := Lib.hid (Bs.below X_20.out b21)
      clear HB20 hz20 b21 HU_20 HV_20 HM_20 HN_20 X_20
      obtain ⟨x0, x1, x2⟩ := id X_21.out
      go_wp2
      go_ret
      exact ⟨rfl, HB21.out⟩
    · have HCU := Lib.hid hCU
      have HCV := Lib.hid hCV
      have HCM := Lib.hid hCM
      have HCN := Lib.hid hCN
      clear hCU hCV hCM hCN
      obtain ⟨x0, x1, x2⟩ := id X_11.out
      rw [HW.out] at x0 x1 x2
      go_wp2_with fail
      rw [← HW.out]
      refine (HCU.out _ HU_11.out).mono ?_
      rintro e w12 ⟨rfl, b12⟩
      clear x0 x1 x2
      have HB12 := Lib.hid (HB11.out.trans (b12.mono hz11))
      have hz12 := HB12.out.size
      have HU_12 := Lib.hid (Rd.below HU_11.out b12)
      have HV_12 := Lib.hid (Rd.below HV_11.out b12)
      have HM_12 := Lib.hid (Rd.below HM_11.out b12)
      have HN_12 := Lib.hid (Rd.below HN_11.out b12)
      have X_12 := Lib.hid (Bs.below X_11.out b12)
      clear HB11 hz11 b12 HU_11 HV_11 HM_11 HN_11 X_11
      obtain ⟨x0, x1, x2⟩ := id X_12.out
      go_wp2_with fail
      refine (HCU.out _ HU_12.out).mono ?_
      rintro e w13 ⟨rfl, b13⟩
      clear x0 x1 x2
      have HB13 := Lib.hid (HB12.out.trans (b13.mono hz12))
      have hz13 := HB13.out.size
      have HU_13 := Lib.hid (Rd.below HU_12.out b13)
      have HV_13 := Lib.hid (Rd.below HV_12.out b13)
      have HM_13 := Lib.hid (Rd.below HM_12.out b13)
      have HN_13 := Lib.hid (Rd.below HN_12.out b13)
      have X_13 := Lib.hid (Bs.below X_12.out b13)
      clear HB12 hz12 b13 HU_12 HV_12 HM_12 HN_12 X_12
      obtain ⟨x0, x1, x2⟩ := id X_13.out
      go_wp2_with fail
      refine (HCV.out _ HV_13.out).mono ?_
      rintro e w14 ⟨rfl, b14⟩
      clear x0 x1 x2
      have HB14 := Lib.hid (HB13.out.trans (b14.mono hz13))
      have hz14 := HB14.out.size
      have HU_14 := Lib.hid (Rd.below HU_13.out b14)
      have HV_14 := Lib.hid (Rd.below HV_13.out b14)
      have HM_14 := Lib.hid (Rd.below HM_13.out b14)
      have HN_14 := Lib.hid (Rd.below HN_13.out b14)
      have X_14 := Lib.hid (Bs.below X_13.out b14)
      clear HB13 hz13 b14 HU_13 HV_13 HM_13 HN_13 X_13
      obtain ⟨x0, x1, x2⟩ := id X_14.out
      go_wp2_with fail
      refine (HCM.out _ _ _ HM_14.out).mono ?_
      rintro e w15 ⟨rfl, b15⟩
      clear x0 x1 x2
      have HB15 := Lib.hid (HB14.out.trans (b15.mono hz14))
      have hz15 := HB15.out.size
      have HU_15 := Lib.hid (Rd.below HU_14.out b15)
      have HV_15 := Lib.hid (Rd.below HV_14.out b15)
      have HM_15 := Lib.hid (Rd.below HM_14.out b15)
      have HN_15 := Lib.hid (Rd.below HN_14.out b15)
      have X_15 := Lib.hid (Bs.below X_14.out b15)
      clear HB14 hz14 b15 HU_14 HV_14 HM_14 HN_14 X_14
      obtain ⟨x0, x1, x2⟩ := id X_15.out
      go_wp2_with fail
      refine (HCN.out _ _ _ HN_15.out).mono ?_
      rintro e w16 ⟨rfl, b16⟩
      clear x0 x1 x2
      have HB16 := Lib.hid (HB15.out.trans (b16.mono hz15))
      have hz16 := HB16.out.size
      have HU_16 := Lib.hid (Rd.below HU_15.out b16)
      have HV_16 := Lib.hid (Rd.below HV_15.out b16)
      have HM_16 := Lib.hid (Rd.below HM_15.out b16)
      have HN_16 := Lib.hid (Rd.below HN_15.out b16)
      have X_16 := Lib.hid (Bs.below X_15.out b16)
      clear HB15 hz15 b16 HU_15 HV_15 HM_15 HN_15 X_15
      obtain ⟨x0, x1, x2⟩ := id X_16.out
      go_wp2_with fail
      refine (HRx.out _ HV_16.out HU_16.out).mono ?_
      rintro e w17 ⟨aP, cP, rfl, rowP, b17⟩
      clear x0 x1 x2
      have HB17 := Lib.hid (HB16.out.trans (b17.mono hz16))
      have hz17 := HB17.out.size
      have HU_17 := Lib.hid (Rd.below HU_16.out b17)
      have HV_17 := Lib.hid (Rd.below HV_16.out b17)
      have HM_17 := Lib.hid (Rd.below HM_16.out b17)
      have HN_17 := Lib.hid (Rd.below HN_16.out b17)
      have X_17 := Lib.hid (Bs.below X_16.out b17)
      clear HB16 hz16 b17 HU_16 HV_16 HM_16 HN_16 X_16
      have HP_17 := Lib.hid rowP.rd
      clear rowP
      obtain ⟨x0, x1, x2⟩ := id X_17.out
      go_wp2_with fail
      refine (HEM.out _ _ _ _ _ HP_17.out HM_17.out).mono ?_
      rintro e w18 ⟨rfl, b18⟩
      clear x0 x1 x2
      have HB18 := Lib.hid (HB17.out.trans (b18.mono hz17))
      have hz18 := HB18.out.size
      have HU_18 := Lib.hid (Rd.below HU_17.out b18)
      have HV_18 := Lib.hid (Rd.below HV_17.out b18)
      have HM_18 := Lib.hid (Rd.below HM_17.out b18)
      have HN_18 := Lib.hid (Rd.below HN_17.out b18)
      have HP_18 := Lib.hid (Rd.below HP_17.out b18)
      have X_18 := Lib.hid (Bs.below X_17.out b18)
      clear HB17 hz17 b18 HU_17 HV_17 HM_17 HN_17 HP_17 X_17
      clear HP_18
      obtain ⟨x0, x1, x2⟩ := id X_18.out
      go_wp2_with fail
      refine (HRn.out _ HV_18.out HU_18.out).mono ?_
      rintro e w19 ⟨aP, cP, rfl, rowP, b19⟩
      clear x0 x1 x2
      have HB19 := Lib.hid (HB18.out.trans (b19.mono hz18))
      have hz19 := HB19.out.size
      have HU_19 := Lib.hid (Rd.below HU_18.out b19)
      have HV_19 := Lib.hid (Rd.below HV_18.out b19)
      have HM_19 := Lib.hid (Rd.below HM_18.out b19)
      have HN_19 := Lib.hid (Rd.below HN_18.out b19)
      have X_19 := Lib.hid (Bs.below X_18.out b19)
      clear HB18 hz18 b19 HU_18 HV_18 HM_18 HN_18 X_18
      have HP_19 := Lib.hid rowP.rd
      clear rowP
      obtain ⟨x0, x1, x2⟩ := id X_19.out
      go_wp2_with fail
      refine (HEN.out _ _ _ _ _ HP_19.out HN_19.out).mono ?_
      rintro e w20 ⟨rfl, b20⟩
      clear x0 x1 x2
      have HB20 := Lib.hid (HB19.out.trans (b20.mono hz19))
      have hz20 := HB20.out.size
      have HU_20 := Lib.hid (Rd.below HU_19.out b20)
      have HV_20 := Lib.hid (Rd.below HV_19.out b20)
      have HM_20 := Lib.hid (Rd.below HM_19.out b20)
      have HN_20 := Lib.hid (Rd.below HN_19.out b20)
      have HP_20 := Lib.hid (Rd.below HP_19.out b20)
      have X_20 := Lib.hid (Bs.below X_19.out b20)
      clear HB19 hz19 b20 HU_19 HV_19 HM_19 HN_19 HP_19 X_19
      clear HP_20
      obtain ⟨x0, x1, x2⟩ := id X_20.out
      go_wp2_with fail
      refine (HLE2.out _ _ _ _ _ HN_20.out HM_20.out).mono ?_
      rintro e w21 ⟨rfl, b21⟩
      clear x0 x1 x2
      have HB21 := Lib.hid (HB20.out.trans (b21.mono hz20))
      have hz21 := HB21.out.size
      have HU_21 := Lib.hid (Rd.below HU_20.out b21)
      have HV_21 := Lib.hid (Rd.below HV_20.out b21)
      have HM_21 := Lib.hid (Rd.below HM_20.out b21)
      have HN_21 := Lib.hid (Rd.below HN_20.out b21)
      have X_21 := Lib.hid (Bs.below X_20.out b21)
      clear HB20 hz20 b21 HU_20 HV_20 HM_20 HN_20 X_20
      obtain ⟨x0, x1, x2⟩ := id X_21.out
      go_wp2
      go_ret
      exact ⟨rfl, HB21.out⟩

end Go.Proofs.Ytlogpbejfifgdaa.VdE
