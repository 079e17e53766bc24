/-
  The walk of the law FnExactLogMerge: it returns true. For every argument; no condition.
-/
import Derived.Test.YtkkeaimoplkliaaLgT
import Derived.Test.YtkkeaimoplkliaaLhD
namespace Go.Proofs.Ytkkeaimoplkliaa.LhE
open Go.RowKit Go.Proofs.Ytkkeaimoplkliaa.Base Go.Proofs.Ytkkeaimoplkliaa.St Go.Proofs.Ytkkeaimoplkliaa.StB Go.Proofs.Ytkkeaimoplkliaa.Vec Go.Proofs.Ytkkeaimoplkliaa.Row Go.Proofs.Ytkkeaimoplkliaa.RowB Go.Proofs.Ytkkeaimoplkliaa.VecA Go.Proofs.Ytkkeaimoplkliaa.OpA Go.Proofs.Ytkkeaimoplkliaa.OpB Go.Proofs.Ytkkeaimoplkliaa.OpT Go.Proofs.Ytkkeaimoplkliaa.LgA Go.Proofs.Ytkkeaimoplkliaa.LgB Go.Proofs.Ytkkeaimoplkliaa.LgC Go.Proofs.Ytkkeaimoplkliaa.LgE Go.Proofs.Ytkkeaimoplkliaa.LgP Go.Proofs.Ytkkeaimoplkliaa.LgT Go.Proofs.Ytkkeaimoplkliaa.LhB Go.Proofs.Ytkkeaimoplkliaa.LhD
set_option linter.unusedVariables false

set_option maxRecDepth 100000 in
set_option maxHeartbeats 4000000 in
theorem walkLogMerge (a0 : Option Addr) (n0 : Nat) (os : List OpV) (a1 : Option Addr) (n1 : Nat) (ps : List OpV) (w : World) (rr0 : RdO w a0 os) (mm0 : os.length ≤ maxLen) (tt0 : ∀ k, k < os.length → (os.getD k zop).tx.size ≤ maxLen) (rr1 : RdO w a1 ps) (mm1 : ps.length ≤ maxLen) (tt1 : ∀ k, k < ps.length → (ps.getD k zop).tx.size ≤ maxLen) :
    Calls Try.prog 6 #[.slice a0 os.length n0, .slice a1 ps.length n1] w fun e w' => e = .returned (.bool true) ∧ Below w.heap.size w w' := by
  have HT0 := Lib.hid tt0
  have HR0 := Lib.hid rr0
  have HZ0 := Lib.hid (fun left W (h : Below w.heap.size w W) (hb : 0 ≤ left ∧ left ≤ 1048576) => szOpS a0 n0 os left W (RdO.below rr0 h) mm0 tt0 hb)
  clear rr0 mm0 tt0
  have HT1 := Lib.hid tt1
  have HR1 := Lib.hid rr1
  have HZ1 := Lib.hid (fun left W (h : Below w.heap.size w W) (hb : 0 ≤ left ∧ left ≤ 1048576) => szOpS a1 n1 ps left W (RdO.below rr1 h) mm1 tt1 hb)
  clear rr1 mm1 tt1
  have B0 := Below.refl w.heap.size w
  go_enter Try.func6, Try.ntmps6
  go_wp2_with fail
  refine (HZ0.out _ _ B0 (by omega)).mono ?_
  rintro e w1 ⟨hzz0, bel1⟩
  have hz1 := bel1.size
  have B1 := B0.trans (bel1.mono B0.size)
  rcases hzz0 with rfl | ⟨left0, hl0_0, hl1_0, hl2_0, rfl⟩
  · go_wp2
    go_ret
    exact ⟨rfl, B1⟩
  have hl0 : os.length ≤ 1048576 := by omega
  go_wp2_with fail
  refine (HZ1.out _ _ B1 (by omega)).mono ?_
  rintro e w2 ⟨hzz1, bel2⟩
  have hz2 := bel2.size
  have B2 := B1.trans (bel2.mono B1.size)
  rcases hzz1 with rfl | ⟨left1, hl0_1, hl1_1, hl2_1, rfl⟩
  · go_wp2
    go_ret
    exact ⟨rfl, B2⟩
  have hl1 : ps.length ≤ 1048576 := by omega
  have hspec := fun a c a' c' W h h' => spec_LogMerge a a' c c' os ps W h h' hl0 hl1 HT0.out HT1.out
  have himpl := fun a c a' c' W h h' (hc : os.length ≤ c) => impl_LogMerge a a' c c' os ps W h h' hl0 hl1 hc HT0.out HT1.out
  have hres : (mergeL os ps).length ≤ 1048576 := by
    unfold mergeL
    split
    · split
      · omega
      · exact hl0
    · exact Nat.zero_le _
  generalize mergeT os ps = flag at hspec himpl
  generalize mergeL os ps = res at hspec himpl hres
  have HS := Lib.hid hspec
  have HI := Lib.hid himpl
  clear hspec himpl
  obtain ⟨y, hy, hy0, hy1⟩ : ∃ y : Int, y = ((1 + 12 * res.length : Nat) : Int) ∧ 0 ≤ y ∧ y ≤ 1099511627776 := ⟨_, rfl, by omega, by omega⟩
  have HY := Lib.hid hy
  clear hy
  go_wp2_with fail
  refine (toOpS _ _ os _ (RdO.below HR0.out B2) hl0).mono ?_
  rintro e w3 ⟨b_s0, rfl, hb_s0, own_s0, bel3⟩
  have hz3 := bel3.size
  have B3 := B2.trans (bel3.mono B2.size)
  have s0_3 := newRowO hb_s0 own_s0
  have h_s0 := s0_3.hi
  clear own_s0 hb_s0
  go_wp2_with fail
  refine (toOpS _ _ ps _ (RdO.below HR1.out B3) hl1).mono ?_
  rintro e w4 ⟨b_s1, rfl, hb_s1, own_s1, bel4⟩
  have hz4 := bel4.size
  have B4 := B3.trans (bel4.mono B3.size)
  have s0_4 := s0_3.below bel4
  clear s0_3
  have s1_4 := newRowO hb_s1 own_s1
  have h_s1 := s1_4.hi
  clear own_s1 hb_s1
  go_wp2_with fail
  refine (HS.out _ _ _ _ _ s0_4.rd s1_4.rd).mono ?_
  rintro e w5 ⟨a_sp, c_sp, rfl, row_sp, bel5⟩
  have hz5 := bel5.size
  have B5 := B4.trans (bel5.mono B4.size)
  have s0_5 := s0_4.below bel5
  have s1_5 := s1_4.below bel5
  clear s0_4 s1_4
  have sp_5 := row_sp
  have h_sp := sp_5.hi
  clear row_sp
  clear s0_5
  clear s1_5
  go_wp2_with fail
  refine (toOpS _ _ os _ (RdO.below HR0.out B5) hl0).mono ?_
  rintro e w6 ⟨b_x0, rfl, hb_x0, own_x0, bel6⟩
  have hz6 := bel6.size
  have B6 := B5.trans (bel6.mono B5.size)
  have sp_6 := sp_5.below bel6
  clear sp_5
  have x0_6 := newRowO hb_x0 own_x0
  have h_x0 := x0_6.hi
  clear own_x0 hb_x0
  go_wp2_with fail
  refine (toOpS _ _ ps _ (RdO.below HR1.out B6) hl1).mono ?_
  rintro e w7 ⟨b_x1, rfl, hb_x1, own_x1, bel7⟩
  have hz7 := bel7.size
  have B7 := B6.trans (bel7.mono B6.size)
  have sp_7 := sp_6.below bel7
  have x0_7 := x0_6.below bel7
  clear sp_6 x0_6
  have x1_7 := newRowO hb_x1 own_x1
  have h_x1 := x1_7.hi
  clear own_x1 hb_x1
  go_wp2_with fail
  refine (HI.out _ _ _ _ _ x0_7.rd x1_7.rd (Nat.le_refl _)).mono ?_
  rintro e w8 ⟨a_gg, c_gg, rfl, row_gg, bel8⟩
  have hz8 := bel8.size
  have B8 := B7.trans (bel8.mono B7.size)
  have sp_8 := sp_7.below bel8
  have x0_8 := x0_7.below bel8
  have x1_8 := x1_7.below bel8
  clear sp_7 x0_7 x1_7
  have gg_8 := row_gg
  have h_gg := gg_8.hi
  clear row_gg
  go_wp2_with fail
  refine (eqOpS _ _ _ _ res _ gg_8.rd sp_8.rd hres).mono ?_
  rintro e w9 ⟨rfl, bel9⟩
  have hz9 := bel9.size
  have B9 := B8.trans (bel9.mono B8.size)
  have sp_9 := sp_8.below bel9
  have x0_9 := x0_8.below bel9
  have x1_9 := x1_8.below bel9
  have gg_9 := gg_8.below bel9
  clear sp_8 x0_8 x1_8 gg_8
  go_wp2_with fail
  refine (toOpS _ _ os _ (RdO.below HR0.out B9) hl0).mono ?_
  rintro e w10 ⟨b_y0, rfl, hb_y0, own_y0, bel10⟩
  have hz10 := bel10.size
  have B10 := B9.trans (bel10.mono B9.size)
  have sp_10 := sp_9.below bel10
  have x0_10 := x0_9.below bel10
  have x1_10 := x1_9.below bel10
  have gg_10 := gg_9.below bel10
  clear sp_9 x0_9 x1_9 gg_9
  have y0_10 := newRowO hb_y0 own_y0
  have h_y0 := y0_10.hi
  clear own_y0 hb_y0
  go_wp2_with fail
  refine (eqOpS _ _ _ _ os _ x0_10.rd y0_10.rd hl0).mono ?_
  rintro e w11 ⟨rfl, bel11⟩
  have hz11 := bel11.size
  have B11 := B10.trans (bel11.mono B10.size)
  have sp_11 := sp_10.below bel11
  have x0_11 := x0_10.below bel11
  have x1_11 := x1_10.below bel11
  have gg_11 := gg_10.below bel11
  have y0_11 := y0_10.below bel11
  clear sp_10 x0_10 x1_10 gg_10 y0_10
  clear y0_11
  go_wp2_with fail
  refine (toOpS _ _ ps _ (RdO.below HR1.out B11) hl1).mono ?_
  rintro e w12 ⟨b_y1, rfl, hb_y1, own_y1, bel12⟩
  have hz12 := bel12.size
  have B12 := B11.trans (bel12.mono B11.size)
  have sp_12 := sp_11.below bel12
  have x0_12 := x0_11.below bel12
  have x1_12 := x1_11.below bel12
  have gg_12 := gg_11.below bel12
  clear sp_11 x0_11 x1_11 gg_11
  have y1_12 := newRowO hb_y1 own_y1
  have h_y1 := y1_12.hi
  clear own_y1 hb_y1
  go_wp2_with fail
  refine (eqOpS _ _ _ _ ps _ x1_12.rd y1_12.rd hl1).mono ?_
  rintro e w13 ⟨rfl, bel13⟩
  have hz13 := bel13.size
  have B13 := B12.trans (bel13.mono B12.size)
  have sp_13 := sp_12.below bel13
  have x0_13 := x0_12.below bel13
  have x1_13 := x1_12.below bel13
  have gg_13 := gg_12.below bel13
  have y1_13 := y1_12.below bel13
  clear sp_12 x0_12 x1_12 gg_12 y1_12
  clear y1_13
  obtain ⟨k0, ek0, ek0_0, ek1_0⟩ : ∃ y : Int, y = ((1 + 12 * os.length : Nat) : Int) ∧ 0 ≤ y ∧ y ≤ 549755813888 := ⟨_, rfl, by omega, by omega⟩
  have EK0 := Lib.hid ek0
  clear ek0
  go_wp2_with fail
  refine (markO _ _ _ _ _ 1 1 k0 _ (by rfl) (EK0.out) x0_13 (hl0) (by omega) (by omega)).mono ?_
  rintro e w14 ⟨rfl, mk_x0, g14⟩
  have hz14 := g14.size
  have B14 := below_grown B13 g14 B13.size (fun b hb => by have := h_x0 _ hb; omega)
  have sp_14 := sp_13.grown g14 (fun b hb h => by have := h_x0 _ h; have := h_sp _ hb; omega)
  have x1_14 := x1_13.grown g14 (fun b hb h => by have := h_x0 _ h; have := h_x1 _ hb; omega)
  have gg_14 := gg_13.grown g14 (fun b hb h => by have := h_x0 _ h; have := h_gg _ hb; omega)
  clear sp_13 x0_13 x1_13 gg_13
  have x0_14 := mk_x0
  clear mk_x0
  clear x0_14
  obtain ⟨k1, ek1, ek0_1, ek1_1⟩ : ∃ y : Int, y = ((1 + 12 * os.length + 12 * ps.length : Nat) : Int) ∧ 0 ≤ y ∧ y ≤ 549755813888 := ⟨_, rfl, by omega, by omega⟩
  have EK1 := Lib.hid ek1
  clear ek1
  go_wp2_with fail
  refine (markO _ _ _ _ _ k0 (1 + 12 * os.length) k1 _ EK0.out EK1.out x1_14 hl1 (by omega) (by omega)).mono ?_
  rintro e w15 ⟨rfl, mk_x1, g15⟩
  have hz15 := g15.size
  have B15 := below_grown B14 g15 B14.size (fun b hb => by have := h_x1 _ hb; omega)
  have sp_15 := sp_14.grown g15 (fun b hb h => by have := h_x1 _ h; have := h_sp _ hb; omega)
  have gg_15 := gg_14.grown g15 (fun b hb h => by have := h_x1 _ h; have := h_gg _ hb; omega)
  clear sp_14 x1_14 gg_14
  have x1_15 := mk_x1
  clear mk_x1
  clear x1_15
  go_wp2_with fail
  refine (eqOpS _ _ _ _ res _ gg_15.rd sp_15.rd hres).mono ?_
  rintro e w16 ⟨rfl, bel16⟩
  have hz16 := bel16.size
  have B16 := B15.trans (bel16.mono B15.size)
  have sp_16 := sp_15.below bel16
  have gg_16 := gg_15.below bel16
  clear sp_15 gg_15
  go_wp2_with fail
  refine (markO _ _ _ _ _ 1 1 y _ (by rfl) (HY.out) gg_16 (hres) (by omega) (by omega)).mono ?_
  rintro e w17 ⟨rfl, mk_gg, g17⟩
  have hz17 := g17.size
  have B17 := below_grown B16 g17 B16.size (fun b hb => by have := h_gg _ hb; omega)
  have sp_17 := sp_16.grown g17 (fun b hb h => by have := h_gg _ h; have := h_sp _ hb; omega)
  clear sp_16 gg_16
  have gg_17 := mk_gg
  clear mk_gg
  go_wp2_with fail
  refine (heldO _ _ _ _ 1 1 y _ (by rfl) (HY.out) gg_17 (hres) (by omega) (by omega)).mono ?_
  rintro e w18 ⟨rfl, bel18⟩
  have hz18 := bel18.size
  have B18 := B17.trans (bel18.mono B17.size)
  have sp_18 := sp_17.below bel18
  have gg_18 := gg_17.below bel18
  clear sp_17 gg_17
  go_wp2_with fail
  refine (toOpS _ _ os _ (RdO.below HR0.out B18) hl0).mono ?_
  rintro e w19 ⟨b_z0, rfl, hb_z0, own_z0, bel19⟩
  have hz19 := bel19.size
  have B19 := B18.trans (bel19.mono B18.size)
  have sp_19 := sp_18.below bel19
  have gg_19 := gg_18.below bel19
  clear sp_18 gg_18
  have z0_19 := newRowO hb_z0 own_z0
  have h_z0 := z0_19.hi
  clear own_z0 hb_z0
  go_wp2_with fail
  refine (toOpS _ _ ps _ (RdO.below HR1.out B19) hl1).mono ?_
  rintro e w20 ⟨b_z1, rfl, hb_z1, own_z1, bel20⟩
  have hz20 := bel20.size
  have B20 := B19.trans (bel20.mono B19.size)
  have sp_20 := sp_19.below bel20
  have gg_20 := gg_19.below bel20
  have z0_20 := z0_19.below bel20
  clear sp_19 gg_19 z0_19
  have z1_20 := newRowO hb_z1 own_z1
  have h_z1 := z1_20.hi
  clear own_z1 hb_z1
  go_wp2_with fail
  refine (HI.out _ _ _ _ _ z0_20.rd z1_20.rd (Nat.le_refl _)).mono ?_
  rintro e w21 ⟨a_hh, c_hh, rfl, row_hh, bel21⟩
  have hz21 := bel21.size
  have B21 := B20.trans (bel21.mono B20.size)
  have sp_21 := sp_20.below bel21
  have gg_21 := gg_20.below bel21
  have z0_21 := z0_20.below bel21
  have z1_21 := z1_20.below bel21
  clear sp_20 gg_20 z0_20 z1_20
  have hh_21 := row_hh
  have h_hh := hh_21.hi
  clear row_hh
  clear z0_21
  clear z1_21
  go_wp2_with fail
  refine (eqOpS _ _ _ _ res _ hh_21.rd sp_21.rd hres).mono ?_
  rintro e w22 ⟨rfl, bel22⟩
  have hz22 := bel22.size
  have B22 := B21.trans (bel22.mono B21.size)
  have sp_22 := sp_21.below bel22
  have gg_22 := gg_21.below bel22
  have hh_22 := hh_21.below bel22
  clear sp_21 gg_21 hh_21
  clear hh_22
  clear sp_22
  go_wp2_with fail
  refine (heldO _ _ _ _ 1 1 y _ (by rfl) (HY.out) gg_22 (hres) (by omega) (by omega)).mono ?_
  rintro e w23 ⟨rfl, bel23⟩
  have hz23 := bel23.size
  have B23 := B22.trans (bel23.mono B22.size)
  have gg_23 := gg_22.below bel23
  clear gg_22
  go_wp2
  go_ret
  exact ⟨rfl, B23⟩

end Go.Proofs.Ytkkeaimoplkliaa.LhE
