/-
  The walks of the laws FnExactVectorMax and FnExactVectorMin: the answers agree, no argument is written, and the answer's memory is shared with nothing. For every argument; no condition.
-/
import Derived.Test.YtmjpblgnlbjejaaRowC
namespace Go.Proofs.Ytmjpblgnlbjejaa.RowD
open Go.RowKit Go.Proofs.Ytmjpblgnlbjejaa.Base Go.Proofs.Ytmjpblgnlbjejaa.St Go.Proofs.Ytmjpblgnlbjejaa.Vec Go.Proofs.Ytmjpblgnlbjejaa.Row Go.Proofs.Ytmjpblgnlbjejaa.RowB Go.Proofs.Ytmjpblgnlbjejaa.RowC Go.Proofs.Ytmjpblgnlbjejaa.VecA Go.Proofs.Ytmjpblgnlbjejaa.VecC Go.Proofs.Ytmjpblgnlbjejaa.VecD

set_option maxHeartbeats 2000000 in
theorem walkVectorMax (a0 : Option Addr) (len0 cap0 : Nat) (z0 : List Int) (a1 : Option Addr) (len1 cap1 : Nat) (z1 : List Int) (w : World) (h0 : IsRow .i64 w a0 len0 cap0 z0) (h1 : IsRow .i64 w a1 len1 cap1 z1) :
    Calls Try.prog 8 #[.slice a0 len0 cap0, .slice a1 len1 cap1] w fun e w' => e = .returned (.bool true) ∧ Below w.heap.size w w' := by
  obtain ⟨xs, rfl, hr⟩ := isRow_rd h0
  obtain ⟨ys, rfl, hs⟩ := isRow_rd h1
  clear h0 h1
  by_cases hl : xs.length ≤ 1048576
  · by_cases hl' : ys.length ≤ 1048576
    · have hspec := fun a a' c c' w hx hy => spec_VectorMax a a' c c' xs ys w hx hy hl hl'
      have himpl := fun a a' c c' w hx hy => impl_VectorMax a a' c c' xs ys w hx hy hl hl'
      have hzl : (vmap mx xs ys).length ≤ 1048576 := by unfold vmap; split <;> simp
      generalize vmap mx xs ys = zs at hspec himpl hzl
      have HS := Lib.hid hspec
      have HI := Lib.hid himpl
      clear hspec himpl
      go_enter Try.func8, Try.ntmps8
      have B0 := Below.refl w.heap.size w
      go_wp2_with fail
      refine (toIntS _ _ xs _ (Rd.below hr B0) hl).mono ?_
      rintro e w1 ⟨b1, rfl, hb1, own1, bel1⟩
      have hz1 := bel1.size
      have B1 := B0.trans (bel1.mono B0.size)
      go_wp2_with fail
      refine (toIntS _ _ ys _ (Rd.below hs B1) hl').mono ?_
      rintro e w2 ⟨b2, rfl, hb2, own2, bel2⟩
      have hz2 := bel2.size
      have B2 := B1.trans (bel2.mono B1.size)
      go_wp2_with fail
      refine (HS.out _ _ _ _ _ (own1.below bel2).rd own2.rd).mono ?_
      rintro e w3 ⟨aw, cw, rfl, rw3, bel3⟩
      have hz3 := bel3.size
      have B3 := B2.trans (bel3.mono B2.size)
      clear own1 own2
      have hw3 := rw3.hi
      go_wp2_with fail
      refine (toIntS _ _ xs _ (Rd.below hr B3) hl).mono ?_
      rintro e w4 ⟨b4, rfl, hb4, own4, bel4⟩
      have hz4 := bel4.size
      have B4 := B3.trans (bel4.mono B3.size)
      go_wp2_with fail
      refine (toIntS _ _ ys _ (Rd.below hs B4) hl').mono ?_
      rintro e w5 ⟨b5, rfl, hb5, own5, bel5⟩
      have hz5 := bel5.size
      have B5 := B4.trans (bel5.mono B4.size)
      have own4' := own4.below bel5
      go_wp2_with fail
      refine (HI.out _ _ _ _ _ own4'.rd own5.rd).mono ?_
      rintro e w6 ⟨ag, cg, rfl, rg6, bel6⟩
      have hz6 := bel6.size
      have B6 := B5.trans (bel6.mono B5.size)
      have hg6 := rg6.hi
      have hb4 := own4.lt
      have hb5' := own5.lt
      have rw6 := ((rw3.below bel4).below bel5).below bel6
      have x6 := own4'.below bel6
      have y6 := own5.below bel6
      clear own4 own4' own5
      go_wp2_with fail
      refine (eqIntS _ _ _ _ zs zs _ rg6.rd rw6.rd hzl hzl).mono ?_
      rintro e w7 ⟨rfl, bel7⟩
      have hz7 := bel7.size
      have B7 := B6.trans (bel7.mono B6.size)
      have rw7 := rw6.below bel7
      have rg7 := rg6.below bel7
      have x7 := x6.below bel7
      have y7 := y6.below bel7
      clear rw6 rg6 x6 y6
      go_wp2_with fail
      refine (toIntS _ _ xs _ (Rd.below hr B7) hl).mono ?_
      rintro e w8 ⟨b8, rfl, hb8, own8, bel8⟩
      have hz8 := bel8.size
      have B8 := B7.trans (bel8.mono B7.size)
      have rw8 := rw7.below bel8
      have rg8 := rg7.below bel8
      have x8 := x7.below bel8
      have y8 := y7.below bel8
      clear rw7 rg7 x7 y7
      go_wp2_with fail
      refine (eqIntS _ _ _ _ xs xs _ x8.rd own8.rd hl hl).mono ?_
      rintro e w9 ⟨rfl, bel9⟩
      have hz9 := bel9.size
      have B9 := B8.trans (bel9.mono B8.size)
      have rw9 := rw8.below bel9
      have rg9 := rg8.below bel9
      have x9 := x8.below bel9
      have y9 := y8.below bel9
      clear rw8 rg8 x8 y8 own8
      go_wp2_with fail
      refine (toIntS _ _ ys _ (Rd.below hs B9) hl').mono ?_
      rintro e w10 ⟨b10, rfl, hb10, own10, bel10⟩
      have hz10 := bel10.size
      have B10 := B9.trans (bel10.mono B9.size)
      have rw10 := rw9.below bel10
      have rg10 := rg9.below bel10
      have x10 := x9.below bel10
      have y10 := y9.below bel10
      clear rw9 rg9 x9 y9
      go_wp2_with fail
      refine (eqIntS _ _ _ _ ys ys _ y10.rd own10.rd hl' hl').mono ?_
      rintro e w11 ⟨rfl, bel11⟩
      have hz11 := bel11.size
      have B11 := B10.trans (bel11.mono B10.size)
      have rw11 := rw10.below bel11
      have rg11 := rg10.below bel11
      have x11 := x10.below bel11
      have y11 := y10.below bel11
      clear rw10 rg10 x10 y10 own10
      go_wp2_with fail
      refine (markIntS _ _ _ _ _ _ w3.heap.size (.inr ⟨b4, rfl, by omega, x11⟩) hl (by omega)).mono ?_
      rintro e w12 ⟨rfl, rx12, g12⟩
      have hz12 := g12.size
      have B12 := below_grown B11 g12 B11.size (fun b hb => by obtain rfl : b4 = b := Option.some.inj hb; omega)
      have rw12 := rw11.grown g12 (fun b hb h => by obtain rfl : b4 = b := Option.some.inj h; have := hw3 _ hb; omega)
      have rg12 := rg11.grown g12 (fun b hb h => by obtain rfl : b4 = b := Option.some.inj h; have := hg6 _ hb; omega)
      have y12 := y11.grown (g := b4) g12 (by omega)
      clear rw11 rg11 x11 y11 rx12
      go_wp2_with fail
      refine (markIntS _ _ _ _ _ _ w4.heap.size (.inr ⟨b5, rfl, by omega, y12⟩) hl' (by omega)).mono ?_
      rintro e w13 ⟨rfl, ry13, g13⟩
      have hz13 := g13.size
      have B13 := below_grown B12 g13 B12.size (fun b hb => by obtain rfl : b5 = b := Option.some.inj hb; omega)
      have rw13 := rw12.grown g13 (fun b hb h => by obtain rfl : b5 = b := Option.some.inj h; have := hw3 _ hb; omega)
      have rg13 := rg12.grown g13 (fun b hb h => by obtain rfl : b5 = b := Option.some.inj h; have := hg6 _ hb; omega)
      clear rw12 rg12 y12 ry13
      go_wp2_with fail
      refine (eqIntS _ _ _ _ zs zs _ rg13.rd rw13.rd hzl hzl).mono ?_
      rintro e w14 ⟨rfl, bel14⟩
      have hz14 := bel14.size
      have B14 := B13.trans (bel14.mono B13.size)
      have rw14 := rw13.below bel14
      have rg14 := rg13.below bel14
      clear rw13 rg13
      go_wp2_with fail
      refine (markIntS _ _ _ _ _ _ w5.heap.size rg14 hzl (by omega)).mono ?_
      rintro e w15 ⟨rfl, rg15, g15⟩
      have hz15 := g15.size
      have B15 := below_grown B14 g15 B14.size (fun b hb => by have := hg6 _ hb; omega)
      have rw15 := rw14.grown g15 (fun b hb h => by have := hg6 _ h; have := hw3 _ hb; omega)
      clear rw14 rg14
      go_wp2_with fail
      refine (heldIntS _ _ _ _ _ w5.heap.size rg15 hzl (by omega)).mono ?_
      rintro e w' ⟨rfl, rfl⟩
      go_wp2_with fail
      refine (toIntS _ _ xs _ (Rd.below hr B15) hl).mono ?_
      rintro e w16 ⟨b16, rfl, hb16, own16, bel16⟩
      have hz16 := bel16.size
      have B16 := B15.trans (bel16.mono B15.size)
      have rw16 := rw15.below bel16
      have rg16 := rg15.below bel16
      clear rw15 rg15
      go_wp2_with fail
      refine (toIntS _ _ ys _ (Rd.below hs B16) hl').mono ?_
      rintro e w17 ⟨b17, rfl, hb17, own17, bel17⟩
      have hz17 := bel17.size
      have B17 := B16.trans (bel17.mono B16.size)
      have rw17 := rw16.below bel17
      have rg17 := rg16.below bel17
      have x17 := own16.below bel17
      clear rw16 rg16 own16
      go_wp2_with fail
      refine (HI.out _ _ _ _ _ x17.rd own17.rd).mono ?_
      rintro e w18 ⟨ah, ch, rfl, rh18, bel18⟩
      have hz18 := bel18.size
      have B18 := B17.trans (bel18.mono B17.size)
      have rw18 := rw17.below bel18
      have rg18 := rg17.below bel18
      clear rw17 rg17 x17 own17
      go_wp2_with fail
      refine (eqIntS _ _ _ _ zs zs _ rh18.rd rw18.rd hzl hzl).mono ?_
      rintro e w19 ⟨rfl, bel19⟩
      have hz19 := bel19.size
      have B19 := B18.trans (bel19.mono B18.size)
      have rg19 := rg18.below bel19
      clear rw18 rg18 rh18
      go_wp2_with fail
      refine (heldIntS _ _ _ _ _ w5.heap.size rg19 hzl (by omega)).mono ?_
      rintro e w' ⟨rfl, rfl⟩
      go_wp2
      go_ret
      exact ⟨rfl, B19⟩
    · have hl0 : (xs.length : Int) ≤ 1048576 := by omega
      have hl'' : (1048576 : Int) < (ys.length : Int) := by omega
      go_enter Try.func8, Try.ntmps8
      go_wp2
      go_ret
      exact ⟨rfl, Below.refl _ _⟩
  · have hl'' : (1048576 : Int) < (xs.length : Int) := by omega
    go_enter Try.func8, Try.ntmps8
    go_wp2
    go_ret
    exact ⟨rfl, Below.refl _ _⟩


set_option maxHeartbeats 2000000 in
theorem walkVectorMin (a0 : Option Addr) (len0 cap0 : Nat) (z0 : List Int) (a1 : Option Addr) (len1 cap1 : Nat) (z1 : List Int) (w : World) (h0 : IsRow .i64 w a0 len0 cap0 z0) (h1 : IsRow .i64 w a1 len1 cap1 z1) :
    Calls Try.prog 9 #[.slice a0 len0 cap0, .slice a1 len1 cap1] w fun e w' => e = .returned (.bool true) ∧ Below w.heap.size w w' := by
  obtain ⟨xs, rfl, hr⟩ := isRow_rd h0
  obtain ⟨ys, rfl, hs⟩ := isRow_rd h1
  clear h0 h1
  by_cases hl : xs.length ≤ 1048576
  · by_cases hl' : ys.length ≤ 1048576
    · have hspec := fun a a' c c' w hx hy => spec_VectorMin a a' c c' xs ys w hx hy hl hl'
      have himpl := fun a a' c c' w hx hy => impl_VectorMin a a' c c' xs ys w hx hy hl hl'
      have hzl : (vmap mn xs ys).length ≤ 1048576 := by unfold vmap; split <;> simp
      generalize vmap mn xs ys = zs at hspec himpl hzl
      have HS := Lib.hid hspec
      have HI := Lib.hid himpl
      clear hspec himpl
      go_enter Try.func9, Try.ntmps9
      have B0 := Below.refl w.heap.size w
      go_wp2_with fail
      refine (toIntS _ _ xs _ (Rd.below hr B0) hl).mono ?_
      rintro e w1 ⟨b1, rfl, hb1, own1, bel1⟩
      have hz1 := bel1.size
      have B1 := B0.trans (bel1.mono B0.size)
      go_wp2_with fail
      refine (toIntS _ _ ys _ (Rd.below hs B1) hl').mono ?_
      rintro e w2 ⟨b2, rfl, hb2, own2, bel2⟩
      have hz2 := bel2.size
      have B2 := B1.trans (bel2.mono B1.size)
      go_wp2_with fail
      refine (HS.out _ _ _ _ _ (own1.below bel2).rd own2.rd).mono ?_
      rintro e w3 ⟨aw, cw, rfl, rw3, bel3⟩
      have hz3 := bel3.size
      have B3 := B2.trans (bel3.mono B2.size)
      clear own1 own2
      have hw3 := rw3.hi
      go_wp2_with fail
      refine (toIntS _ _ xs _ (Rd.below hr B3) hl).mono ?_
      rintro e w4 ⟨b4, rfl, hb4, own4, bel4⟩
      have hz4 := bel4.size
      have B4 := B3.trans (bel4.mono B3.size)
      go_wp2_with fail
      refine (toIntS _ _ ys _ (Rd.below hs B4) hl').mono ?_
      rintro e w5 ⟨b5, rfl, hb5, own5, bel5⟩
      have hz5 := bel5.size
      have B5 := B4.trans (bel5.mono B4.size)
      have own4' := own4.below bel5
      go_wp2_with fail
      refine (HI.out _ _ _ _ _ own4'.rd own5.rd).mono ?_
      rintro e w6 ⟨ag, cg, rfl, rg6, bel6⟩
      have hz6 := bel6.size
      have B6 := B5.trans (bel6.mono B5.size)
      have hg6 := rg6.hi
      have hb4 := own4.lt
      have hb5' := own5.lt
      have rw6 := ((rw3.below bel4).below bel5).below bel6
      have x6 := own4'.below bel6
      have y6 := own5.below bel6
      clear own4 own4' own5
      go_wp2_with fail
      refine (eqIntS _ _ _ _ zs zs _ rg6.rd rw6.rd hzl hzl).mono ?_
      rintro e w7 ⟨rfl, bel7⟩
      have hz7 := bel7.size
      have B7 := B6.trans (bel7.mono B6.size)
      have rw7 := rw6.below bel7
      have rg7 := rg6.below bel7
      have x7 := x6.below bel7
      have y7 := y6.below bel7
      clear rw6 rg6 x6 y6
      go_wp2_with fail
      refine (toIntS _ _ xs _ (Rd.below hr B7) hl).mono ?_
      rintro e w8 ⟨b8, rfl, hb8, own8, bel8⟩
      have hz8 := bel8.size
      have B8 := B7.trans (bel8.mono B7.size)
      have rw8 := rw7.below bel8
      have rg8 := rg7.below bel8
      have x8 := x7.below bel8
      have y8 := y7.below bel8
      clear rw7 rg7 x7 y7
      go_wp2_with fail
      refine (eqIntS _ _ _ _ xs xs _ x8.rd own8.rd hl hl).mono ?_
      rintro e w9 ⟨rfl, bel9⟩
      have hz9 := bel9.size
      have B9 := B8.trans (bel9.mono B8.size)
      have rw9 := rw8.below bel9
      have rg9 := rg8.below bel9
      have x9 := x8.below bel9
      have y9 := y8.below bel9
      clear rw8 rg8 x8 y8 own8
      go_wp2_with fail
      refine (toIntS _ _ ys _ (Rd.below hs B9) hl').mono ?_
      rintro e w10 ⟨b10, rfl, hb10, own10, bel10⟩
      have hz10 := bel10.size
      have B10 := B9.trans (bel10.mono B9.size)
      have rw10 := rw9.below bel10
      have rg10 := rg9.below bel10
      have x10 := x9.below bel10
      have y10 := y9.below bel10
      clear rw9 rg9 x9 y9
      go_wp2_with fail
      refine (eqIntS _ _ _ _ ys ys _ y10.rd own10.rd hl' hl').mono ?_
      rintro e w11 ⟨rfl, bel11⟩
      have hz11 := bel11.size
      have B11 := B10.trans (bel11.mono B10.size)
      have rw11 := rw10.below bel11
      have rg11 := rg10.below bel11
      have x11 := x10.below bel11
      have y11 := y10.below bel11
      clear rw10 rg10 x10 y10 own10
      go_wp2_with fail
      refine (markIntS _ _ _ _ _ _ w3.heap.size (.inr ⟨b4, rfl, by omega, x11⟩) hl (by omega)).mono ?_
      rintro e w12 ⟨rfl, rx12, g12⟩
      have hz12 := g12.size
      have B12 := below_grown B11 g12 B11.size (fun b hb => by obtain rfl : b4 = b := Option.some.inj hb; omega)
      have rw12 := rw11.grown g12 (fun b hb h => by obtain rfl : b4 = b := Option.some.inj h; have := hw3 _ hb; omega)
      have rg12 := rg11.grown g12 (fun b hb h => by obtain rfl : b4 = b := Option.some.inj h; have := hg6 _ hb; omega)
      have y12 := y11.grown (g := b4) g12 (by omega)
      clear rw11 rg11 x11 y11 rx12
      go_wp2_with fail
      refine (markIntS _ _ _ _ _ _ w4.heap.size (.inr ⟨b5, rfl, by omega, y12⟩) hl' (by omega)).mono ?_
      rintro e w13 ⟨rfl, ry13, g13⟩
      have hz13 := g13.size
      have B13 := below_grown B12 g13 B12.size (fun b hb => by obtain rfl : b5 = b := Option.some.inj hb; omega)
      have rw13 := rw12.grown g13 (fun b hb h => by obtain rfl : b5 = b := Option.some.inj h; have := hw3 _ hb; omega)
      have rg13 := rg12.grown g13 (fun b hb h => by obtain rfl : b5 = b := Option.some.inj h; have := hg6 _ hb; omega)
      clear rw12 rg12 y12 ry13
      go_wp2_with fail
      refine (eqIntS _ _ _ _ zs zs _ rg13.rd rw13.rd hzl hzl).mono ?_
      rintro e w14 ⟨rfl, bel14⟩
      have hz14 := bel14.size
      have B14 := B13.trans (bel14.mono B13.size)
      have rw14 := rw13.below bel14
      have rg14 := rg13.below bel14
      clear rw13 rg13
      go_wp2_with fail
      refine (markIntS _ _ _ _ _ _ w5.heap.size rg14 hzl (by omega)).mono ?_
      rintro e w15 ⟨rfl, rg15, g15⟩
      have hz15 := g15.size
      have B15 := below_grown B14 g15 B14.size (fun b hb => by have := hg6 _ hb; omega)
      have rw15 := rw14.grown g15 (fun b hb h => by have := hg6 _ h; have := hw3 _ hb; omega)
      clear rw14 rg14
      go_wp2_with fail
      refine (heldIntS _ _ _ _ _ w5.heap.size rg15 hzl (by omega)).mono ?_
      rintro e w' ⟨rfl, rfl⟩
      go_wp2_with fail
      refine (toIntS _ _ xs _ (Rd.below hr B15) hl).mono ?_
      rintro e w16 ⟨b16, rfl, hb16, own16, bel16⟩
      have hz16 := bel16.size
      have B16 := B15.trans (bel16.mono B15.size)
      have rw16 := rw15.below bel16
      have rg16 := rg15.below bel16
      clear rw15 rg15
      go_wp2_with fail
      refine (toIntS _ _ ys _ (Rd.below hs B16) hl').mono ?_
      rintro e w17 ⟨b17, rfl, hb17, own17, bel17⟩
      have hz17 := bel17.size
      have B17 := B16.trans (bel17.mono B16.size)
      have rw17 := rw16.below bel17
      have rg17 := rg16.below bel17
      have x17 := own16.below bel17
      clear rw16 rg16 own16
      go_wp2_with fail
      refine (HI.out _ _ _ _ _ x17.rd own17.rd).mono ?_
      rintro e w18 ⟨ah, ch, rfl, rh18, bel18⟩
      have hz18 := bel18.size
      have B18 := B17.trans (bel18.mono B17.size)
      have rw18 := rw17.below bel18
      have rg18 := rg17.below bel18
      clear rw17 rg17 x17 own17
      go_wp2_with fail
      refine (eqIntS _ _ _ _ zs zs _ rh18.rd rw18.rd hzl hzl).mono ?_
      rintro e w19 ⟨rfl, bel19⟩
      have hz19 := bel19.size
      have B19 := B18.trans (bel19.mono B18.size)
      have rg19 := rg18.below bel19
      clear rw18 rg18 rh18
      go_wp2_with fail
      refine (heldIntS _ _ _ _ _ w5.heap.size rg19 hzl (by omega)).mono ?_
      rintro e w' ⟨rfl, rfl⟩
      go_wp2
      go_ret
      exact ⟨rfl, B19⟩
    · have hl0 : (xs.length : Int) ≤ 1048576 := by omega
      have hl'' : (1048576 : Int) < (ys.length : Int) := by omega
      go_enter Try.func9, Try.ntmps9
      go_wp2
      go_ret
      exact ⟨rfl, Below.refl _ _⟩
  · have hl'' : (1048576 : Int) < (xs.length : Int) := by omega
    go_enter Try.func9, Try.ntmps9
    go_wp2
    go_ret
    exact ⟨rfl, Below.refl _ _⟩


end Go.Proofs.Ytmjpblgnlbjejaa.RowD
