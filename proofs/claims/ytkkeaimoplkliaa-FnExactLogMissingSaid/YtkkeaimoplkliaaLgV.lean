/-
  The walk of the law FnExactLogMissing: it returns true. For every argument; no condition.
-/
import Derived.Test.YtkkeaimoplkliaaLgT
namespace Go.Proofs.Ytkkeaimoplkliaa.LgV
open Go.RowKit Go.Proofs.Ytkkeaimoplkliaa.Base Go.Proofs.Ytkkeaimoplkliaa.St Go.Proofs.Ytkkeaimoplkliaa.StB Go.Proofs.Ytkkeaimoplkliaa.Vec Go.Proofs.Ytkkeaimoplkliaa.Row Go.Proofs.Ytkkeaimoplkliaa.RowB Go.Proofs.Ytkkeaimoplkliaa.VecA Go.Proofs.Ytkkeaimoplkliaa.OpA Go.Proofs.Ytkkeaimoplkliaa.OpB Go.Proofs.Ytkkeaimoplkliaa.OpT Go.Proofs.Ytkkeaimoplkliaa.LgA Go.Proofs.Ytkkeaimoplkliaa.LgB Go.Proofs.Ytkkeaimoplkliaa.LgC Go.Proofs.Ytkkeaimoplkliaa.LgE Go.Proofs.Ytkkeaimoplkliaa.LgP Go.Proofs.Ytkkeaimoplkliaa.LgT Go.Proofs.Ytkkeaimoplkliaa.LgQ Go.Proofs.Ytkkeaimoplkliaa.LgS
set_option linter.unusedVariables false

set_option maxRecDepth 100000 in
set_option maxHeartbeats 4000000 in
theorem walkLogMissing (a0 : Option Addr) (n0 : Nat) (os : List OpV) (a1 : Option Addr) (len1 cap1 : Nat) (z1 : List Int) (w : World) (rr0 : RdO w a0 os) (mm0 : os.length ≤ maxLen) (tt0 : ∀ k, k < os.length → (os.getD k zop).tx.size ≤ maxLen) (h1 : IsRow .i64 w a1 len1 cap1 z1) :
    Calls Try.prog 9 #[.slice a0 os.length n0, .slice a1 len1 cap1] w fun e w' => e = .returned (.bool true) ∧ Below w.heap.size w w' := by
  obtain ⟨zs, rfl, rr1⟩ := isRow_rd h1
  clear h1
  by_cases hl1 : zs.length ≤ 1048576
  · skip
    have HT0 := Lib.hid tt0
    have HR0 := Lib.hid rr0
    have HZ0 := Lib.hid (fun left W (h : Below w.heap.size w W) (hb : 0 ≤ left ∧ left ≤ 1048576) => szOpS a0 n0 os left W (RdO.below rr0 h) mm0 tt0 hb)
    clear rr0 mm0 tt0
    have HR1 := Lib.hid rr1
    clear rr1
    have B0 := Below.refl w.heap.size w
    go_enter Try.func9, Try.ntmps9
    go_wp2_with fail
    refine (HZ0.out _ _ B0 (by omega)).mono ?_
    rintro e w1 ⟨hzz0, bel1⟩
    have hz1 := bel1.size
    have B1 := B0.trans (bel1.mono B0.size)
    rcases hzz0 with rfl | ⟨left0, hl0_0, hl1_0, hl2_0, rfl⟩
    · go_wp2
      go_ret
      exact ⟨rfl, B1⟩
    have hl0 : os.length ≤ 1048576 := by omega
    have hspec := fun a c a' c' W h h' => spec_LogMissing a a' c c' os zs W h h' hl0 hl1 HT0.out
    have himpl := fun a c a' c' W h h' => impl_LogMissing a a' c c' os zs W h h' hl0 hl1 HT0.out
    have hres : (mis os zs).length ≤ 1048576 := by unfold mis; split <;> first | exact Nat.le_trans (keepTo_len _ _ _) hl0 | exact Nat.zero_le _
    generalize mis os zs = res at hspec himpl hres
    have HS := Lib.hid hspec
    have HI := Lib.hid himpl
    clear hspec himpl
    obtain ⟨y, hy, hy0, hy1⟩ : ∃ y : Int, y = ((1 + 12 * res.length : Nat) : Int) ∧ 0 ≤ y ∧ y ≤ 1099511627776 := ⟨_, rfl, by omega, by omega⟩
    have HY := Lib.hid hy
    clear hy
    go_wp2_with fail
    refine (toOpS _ _ os _ (RdO.below HR0.out B1) hl0).mono ?_
    rintro e w2 ⟨b_s0, rfl, hb_s0, own_s0, bel2⟩
    have hz2 := bel2.size
    have B2 := B1.trans (bel2.mono B1.size)
    have s0_2 := newRowO hb_s0 own_s0
    have h_s0 := s0_2.hi
    clear own_s0 hb_s0
    go_wp2_with fail
    refine (toIntS _ _ zs _ (Rd.below HR1.out B2) hl1).mono ?_
    rintro e w3 ⟨b_s1, rfl, hb_s1, own_s1, bel3⟩
    have hz3 := bel3.size
    have B3 := B2.trans (bel3.mono B2.size)
    have s0_3 := s0_2.below bel3
    clear s0_2
    have s1_3 := newRowF hb_s1 own_s1
    have h_s1 := s1_3.hi
    clear own_s1 hb_s1
    go_wp2_with fail
    refine (HS.out _ _ _ _ _ s0_3.rd s1_3.rd).mono ?_
    rintro e w4 ⟨a_sp, c_sp, rfl, row_sp, bel4⟩
    have hz4 := bel4.size
    have B4 := B3.trans (bel4.mono B3.size)
    have s0_4 := s0_3.below bel4
    have s1_4 := s1_3.below bel4
    clear s0_3 s1_3
    have sp_4 := row_sp
    have h_sp := sp_4.hi
    clear row_sp
    clear s0_4
    clear s1_4
    go_wp2_with fail
    refine (toOpS _ _ os _ (RdO.below HR0.out B4) hl0).mono ?_
    rintro e w5 ⟨b_x0, rfl, hb_x0, own_x0, bel5⟩
    have hz5 := bel5.size
    have B5 := B4.trans (bel5.mono B4.size)
    have sp_5 := sp_4.below bel5
    clear sp_4
    have x0_5 := newRowO hb_x0 own_x0
    have h_x0 := x0_5.hi
    clear own_x0 hb_x0
    go_wp2_with fail
    refine (toIntS _ _ zs _ (Rd.below HR1.out B5) hl1).mono ?_
    rintro e w6 ⟨b_x1, rfl, hb_x1, own_x1, bel6⟩
    have hz6 := bel6.size
    have B6 := B5.trans (bel6.mono B5.size)
    have sp_6 := sp_5.below bel6
    have x0_6 := x0_5.below bel6
    clear sp_5 x0_5
    have x1_6 := newRowF hb_x1 own_x1
    have h_x1 := x1_6.hi
    clear own_x1 hb_x1
    go_wp2_with fail
    refine (HI.out _ _ _ _ _ x0_6.rd x1_6.rd).mono ?_
    rintro e w7 ⟨a_gg, c_gg, rfl, row_gg, bel7⟩
    have hz7 := bel7.size
    have B7 := B6.trans (bel7.mono B6.size)
    have sp_7 := sp_6.below bel7
    have x0_7 := x0_6.below bel7
    have x1_7 := x1_6.below bel7
    clear sp_6 x0_6 x1_6
    have gg_7 := row_gg
    have h_gg := gg_7.hi
    clear row_gg
    go_wp2_with fail
    refine (eqOpS _ _ _ _ res _ gg_7.rd sp_7.rd hres).mono ?_
    rintro e w8 ⟨rfl, bel8⟩
    have hz8 := bel8.size
    have B8 := B7.trans (bel8.mono B7.size)
    have sp_8 := sp_7.below bel8
    have x0_8 := x0_7.below bel8
    have x1_8 := x1_7.below bel8
    have gg_8 := gg_7.below bel8
    clear sp_7 x0_7 x1_7 gg_7
    go_wp2_with fail
    refine (toOpS _ _ os _ (RdO.below HR0.out B8) hl0).mono ?_
    rintro e w9 ⟨b_y0, rfl, hb_y0, own_y0, bel9⟩
    have hz9 := bel9.size
    have B9 := B8.trans (bel9.mono B8.size)
    have sp_9 := sp_8.below bel9
    have x0_9 := x0_8.below bel9
    have x1_9 := x1_8.below bel9
    have gg_9 := gg_8.below bel9
    clear sp_8 x0_8 x1_8 gg_8
    have y0_9 := newRowO hb_y0 own_y0
    have h_y0 := y0_9.hi
    clear own_y0 hb_y0
    go_wp2_with fail
    refine (eqOpS _ _ _ _ os _ x0_9.rd y0_9.rd hl0).mono ?_
    rintro e w10 ⟨rfl, bel10⟩
    have hz10 := bel10.size
    have B10 := B9.trans (bel10.mono B9.size)
    have sp_10 := sp_9.below bel10
    have x0_10 := x0_9.below bel10
    have x1_10 := x1_9.below bel10
    have gg_10 := gg_9.below bel10
    have y0_10 := y0_9.below bel10
    clear sp_9 x0_9 x1_9 gg_9 y0_9
    clear y0_10
    go_wp2_with fail
    refine (toIntS _ _ zs _ (Rd.below HR1.out B10) hl1).mono ?_
    rintro e w11 ⟨b_y1, rfl, hb_y1, own_y1, bel11⟩
    have hz11 := bel11.size
    have B11 := B10.trans (bel11.mono B10.size)
    have sp_11 := sp_10.below bel11
    have x0_11 := x0_10.below bel11
    have x1_11 := x1_10.below bel11
    have gg_11 := gg_10.below bel11
    clear sp_10 x0_10 x1_10 gg_10
    have y1_11 := newRowF hb_y1 own_y1
    have h_y1 := y1_11.hi
    clear own_y1 hb_y1
    go_wp2_with fail
    refine (eqIntS _ _ _ _ zs zs _ x1_11.rd y1_11.rd hl1 hl1).mono ?_
    rintro e w12 ⟨rfl, bel12⟩
    have hz12 := bel12.size
    have B12 := B11.trans (bel12.mono B11.size)
    have sp_12 := sp_11.below bel12
    have x0_12 := x0_11.below bel12
    have x1_12 := x1_11.below bel12
    have gg_12 := gg_11.below bel12
    have y1_12 := y1_11.below bel12
    clear sp_11 x0_11 x1_11 gg_11 y1_11
    clear y1_12
    obtain ⟨k0, ek0, ek0_0, ek1_0⟩ : ∃ y : Int, y = ((1 + 12 * os.length : Nat) : Int) ∧ 0 ≤ y ∧ y ≤ 549755813888 := ⟨_, rfl, by omega, by omega⟩
    have EK0 := Lib.hid ek0
    clear ek0
    go_wp2_with fail
    refine (markO _ _ _ _ _ 1 1 k0 _ (by rfl) (EK0.out) x0_12 (hl0) (by omega) (by omega)).mono ?_
    rintro e w13 ⟨rfl, mk_x0, g13⟩
    have hz13 := g13.size
    have B13 := below_grown B12 g13 B12.size (fun b hb => by have := h_x0 _ hb; omega)
    have sp_13 := sp_12.grown g13 (fun b hb h => by have := h_x0 _ h; have := h_sp _ hb; omega)
    have x1_13 := x1_12.grown g13 (fun b hb h => by have := h_x0 _ h; have := h_x1 _ hb; omega)
    have gg_13 := gg_12.grown g13 (fun b hb h => by have := h_x0 _ h; have := h_gg _ hb; omega)
    clear sp_12 x0_12 x1_12 gg_12
    have x0_13 := mk_x0
    clear mk_x0
    clear x0_13
    obtain ⟨k1, ek1, ek0_1, ek1_1⟩ : ∃ y : Int, y = k0 + (zs.length : Int) ∧ 0 ≤ y ∧ y ≤ 1099511627776 := ⟨_, rfl, by omega, by omega⟩
    have EK1 := Lib.hid ek1
    clear ek1
    go_wp2_with fail
    refine (markI _ _ _ _ _ k0 k1 _ (EK1.out) x1_13 (hl1) (by omega)).mono ?_
    rintro e w14 ⟨rfl, mk_x1, g14⟩
    have hz14 := g14.size
    have B14 := below_grown B13 g14 B13.size (fun b hb => by have := h_x1 _ hb; omega)
    have sp_14 := sp_13.grown g14 (fun b hb h => by have := h_x1 _ h; have := h_sp _ hb; omega)
    have gg_14 := gg_13.grown g14 (fun b hb h => by have := h_x1 _ h; have := h_gg _ hb; omega)
    clear sp_13 x1_13 gg_13
    have x1_14 := mk_x1
    clear mk_x1
    clear x1_14
    go_wp2_with fail
    refine (eqOpS _ _ _ _ res _ gg_14.rd sp_14.rd hres).mono ?_
    rintro e w15 ⟨rfl, bel15⟩
    have hz15 := bel15.size
    have B15 := B14.trans (bel15.mono B14.size)
    have sp_15 := sp_14.below bel15
    have gg_15 := gg_14.below bel15
    clear sp_14 gg_14
    go_wp2_with fail
    refine (markO _ _ _ _ _ 1 1 y _ (by rfl) (HY.out) gg_15 (hres) (by omega) (by omega)).mono ?_
    rintro e w16 ⟨rfl, mk_gg, g16⟩
    have hz16 := g16.size
    have B16 := below_grown B15 g16 B15.size (fun b hb => by have := h_gg _ hb; omega)
    have sp_16 := sp_15.grown g16 (fun b hb h => by have := h_gg _ h; have := h_sp _ hb; omega)
    clear sp_15 gg_15
    have gg_16 := mk_gg
    clear mk_gg
    go_wp2_with fail
    refine (heldO _ _ _ _ 1 1 y _ (by rfl) (HY.out) gg_16 (hres) (by omega) (by omega)).mono ?_
    rintro e w17 ⟨rfl, bel17⟩
    have hz17 := bel17.size
    have B17 := B16.trans (bel17.mono B16.size)
    have sp_17 := sp_16.below bel17
    have gg_17 := gg_16.below bel17
    clear sp_16 gg_16
    go_wp2_with fail
    refine (toOpS _ _ os _ (RdO.below HR0.out B17) hl0).mono ?_
    rintro e w18 ⟨b_z0, rfl, hb_z0, own_z0, bel18⟩
    have hz18 := bel18.size
    have B18 := B17.trans (bel18.mono B17.size)
    have sp_18 := sp_17.below bel18
    have gg_18 := gg_17.below bel18
    clear sp_17 gg_17
    have z0_18 := newRowO hb_z0 own_z0
    have h_z0 := z0_18.hi
    clear own_z0 hb_z0
    go_wp2_with fail
    refine (toIntS _ _ zs _ (Rd.below HR1.out B18) hl1).mono ?_
    rintro e w19 ⟨b_z1, rfl, hb_z1, own_z1, bel19⟩
    have hz19 := bel19.size
    have B19 := B18.trans (bel19.mono B18.size)
    have sp_19 := sp_18.below bel19
    have gg_19 := gg_18.below bel19
    have z0_19 := z0_18.below bel19
    clear sp_18 gg_18 z0_18
    have z1_19 := newRowF hb_z1 own_z1
    have h_z1 := z1_19.hi
    clear own_z1 hb_z1
    go_wp2_with fail
    refine (HI.out _ _ _ _ _ z0_19.rd z1_19.rd).mono ?_
    rintro e w20 ⟨a_hh, c_hh, rfl, row_hh, bel20⟩
    have hz20 := bel20.size
    have B20 := B19.trans (bel20.mono B19.size)
    have sp_20 := sp_19.below bel20
    have gg_20 := gg_19.below bel20
    have z0_20 := z0_19.below bel20
    have z1_20 := z1_19.below bel20
    clear sp_19 gg_19 z0_19 z1_19
    have hh_20 := row_hh
    have h_hh := hh_20.hi
    clear row_hh
    clear z0_20
    clear z1_20
    go_wp2_with fail
    refine (eqOpS _ _ _ _ res _ hh_20.rd sp_20.rd hres).mono ?_
    rintro e w21 ⟨rfl, bel21⟩
    have hz21 := bel21.size
    have B21 := B20.trans (bel21.mono B20.size)
    have sp_21 := sp_20.below bel21
    have gg_21 := gg_20.below bel21
    have hh_21 := hh_20.below bel21
    clear sp_20 gg_20 hh_20
    clear hh_21
    clear sp_21
    go_wp2_with fail
    refine (heldO _ _ _ _ 1 1 y _ (by rfl) (HY.out) gg_21 (hres) (by omega) (by omega)).mono ?_
    rintro e w22 ⟨rfl, bel22⟩
    have hz22 := bel22.size
    have B22 := B21.trans (bel22.mono B21.size)
    have gg_22 := gg_21.below bel22
    clear gg_21
    go_wp2
    go_ret
    exact ⟨rfl, B22⟩
  · have hlx : (1048576 : Int) < (zs.length : Int) := by omega
    go_enter Try.func9, Try.ntmps9
    go_wp2
    go_ret
    exact ⟨rfl, Below.refl _ _⟩

end Go.Proofs.Ytkkeaimoplkliaa.LgV
