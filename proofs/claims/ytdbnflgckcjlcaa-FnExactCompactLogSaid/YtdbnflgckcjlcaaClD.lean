/-
  The walk of the law FnExactCompactLog: it returns true. For every argument; no condition.
-/
import Derived.Test.YtdbnflgckcjlcaaK5
import Derived.Test.YtdbnflgckcjlcaaClB
import Derived.Test.YtdbnflgckcjlcaaClC
namespace Go.Proofs.Ytdbnflgckcjlcaa.ClD
open Go.RowKit Go.Proofs.Ytdbnflgckcjlcaa.Base Go.Proofs.Ytdbnflgckcjlcaa.St Go.Proofs.Ytdbnflgckcjlcaa.StB Go.Proofs.Ytdbnflgckcjlcaa.Vec Go.Proofs.Ytdbnflgckcjlcaa.Row Go.Proofs.Ytdbnflgckcjlcaa.RowB Go.Proofs.Ytdbnflgckcjlcaa.VecA Go.Proofs.Ytdbnflgckcjlcaa.OpA Go.Proofs.Ytdbnflgckcjlcaa.OpB Go.Proofs.Ytdbnflgckcjlcaa.OpT Go.Proofs.Ytdbnflgckcjlcaa.LgA Go.Proofs.Ytdbnflgckcjlcaa.LgB Go.Proofs.Ytdbnflgckcjlcaa.LgC Go.Proofs.Ytdbnflgckcjlcaa.LgE Go.Proofs.Ytdbnflgckcjlcaa.LgP Go.Proofs.Ytdbnflgckcjlcaa.LgT Go.Proofs.Ytdbnflgckcjlcaa.ClA Go.Proofs.Ytdbnflgckcjlcaa.ClB Go.Proofs.Ytdbnflgckcjlcaa.ClC
set_option linter.unusedVariables false

set_option maxRecDepth 100000 in
set_option maxHeartbeats 4000000 in
theorem walkCompactLog (a0 : Option Addr) (n0 : Nat) (os : List OpV) (w : World) (rr0 : RdO w a0 os) (mm0 : os.length ≤ maxLen) (tt0 : ∀ k, k < os.length → (os.getD k zop).tx.size ≤ maxLen) :
    Calls Try.prog 5 #[.slice a0 os.length n0] w fun e w' => e = .returned (.bool true) ∧ Below w.heap.size w w' := by
  have HT0 := Lib.hid tt0
  have HR0 := Lib.hid rr0
  have HZ0 := Lib.hid (fun left W (h : Below w.heap.size w W) (hb : 0 ≤ left ∧ left ≤ 1048576) => szOpS a0 n0 os left W (RdO.below rr0 h) mm0 tt0 hb)
  clear rr0 mm0 tt0
  have B0 := Below.refl w.heap.size w
  go_enter Try.func5, Try.ntmps5
  go_wp2_with fail
  refine (HZ0.out _ _ B0 (by omega)).mono ?_
  rintro e w1 ⟨hzz0, bel1⟩
  have hz1 := bel1.size
  have B1 := B0.trans (bel1.mono B0.size)
  rcases hzz0 with rfl | ⟨left0, hl0_0, hl1_0, hl2_0, rfl⟩
  · go_wp2
    go_ret
    exact ⟨rfl, B1⟩
  have hl0 : os.length ≤ 1048576 := by omega
  have hspec := fun a c W h => spec_CompactLog a c os W h hl0 HT0.out
  have himpl := fun a c W h => impl_CompactLog a c os W h hl0 HT0.out
  have hres : (cmp os).length ≤ 1048576 := by unfold cmp; split <;> first | exact Nat.le_trans (keepTo_len _ _ _) hl0 | exact Nat.zero_le _
  generalize cmp os = res at hspec himpl hres
  have HS := Lib.hid hspec
  have HI := Lib.hid himpl
  clear hspec himpl
  obtain ⟨y, hy, hy0, hy1⟩ : ∃ y : Int, y = ((1 + 12 * res.length : Nat) : Int) ∧ 0 ≤ y ∧ y ≤ 1099511627776 := ⟨_, rfl, by omega, by omega⟩
  have HY := Lib.hid hy
  clear hy
  go_wp2_with fail
  refine (toOpS _ _ os _ (RdO.below HR0.out B1) hl0).mono ?_
  rintro e w2 ⟨b_s0, rfl, hb_s0, own_s0, bel2⟩
  have hz2 := bel2.size
  have B2 := B1.trans (bel2.mono B1.size)
  have s0_2 := newRowO hb_s0 own_s0
  have h_s0 := s0_2.hi
  clear own_s0 hb_s0
  go_wp2_with fail
  refine (HS.out _ _ _ s0_2.rd).mono ?_
  rintro e w3 ⟨a_sp, c_sp, rfl, row_sp, bel3⟩
  have hz3 := bel3.size
  have B3 := B2.trans (bel3.mono B2.size)
  have s0_3 := s0_2.below bel3
  clear s0_2
  have sp_3 := row_sp
  have h_sp := sp_3.hi
  clear row_sp
  clear s0_3
  go_wp2_with fail
  refine (toOpS _ _ os _ (RdO.below HR0.out B3) hl0).mono ?_
  rintro e w4 ⟨b_x0, rfl, hb_x0, own_x0, bel4⟩
  have hz4 := bel4.size
  have B4 := B3.trans (bel4.mono B3.size)
  have sp_4 := sp_3.below bel4
  clear sp_3
  have x0_4 := newRowO hb_x0 own_x0
  have h_x0 := x0_4.hi
  clear own_x0 hb_x0
  go_wp2_with fail
  refine (HI.out _ _ _ x0_4.rd).mono ?_
  rintro e w5 ⟨a_gg, c_gg, rfl, row_gg, bel5⟩
  have hz5 := bel5.size
  have B5 := B4.trans (bel5.mono B4.size)
  have sp_5 := sp_4.below bel5
  have x0_5 := x0_4.below bel5
  clear sp_4 x0_4
  have gg_5 := row_gg
  have h_gg := gg_5.hi
  clear row_gg
  go_wp2_with fail
  refine (eqOpS _ _ _ _ res _ gg_5.rd sp_5.rd hres).mono ?_
  rintro e w6 ⟨rfl, bel6⟩
  have hz6 := bel6.size
  have B6 := B5.trans (bel6.mono B5.size)
  have sp_6 := sp_5.below bel6
  have x0_6 := x0_5.below bel6
  have gg_6 := gg_5.below bel6
  clear sp_5 x0_5 gg_5
  go_wp2_with fail
  refine (toOpS _ _ os _ (RdO.below HR0.out B6) hl0).mono ?_
  rintro e w7 ⟨b_y0, rfl, hb_y0, own_y0, bel7⟩
  have hz7 := bel7.size
  have B7 := B6.trans (bel7.mono B6.size)
  have sp_7 := sp_6.below bel7
  have x0_7 := x0_6.below bel7
  have gg_7 := gg_6.below bel7
  clear sp_6 x0_6 gg_6
  have y0_7 := newRowO hb_y0 own_y0
  have h_y0 := y0_7.hi
  clear own_y0 hb_y0
  go_wp2_with fail
  refine (eqOpS _ _ _ _ os _ x0_7.rd y0_7.rd hl0).mono ?_
  rintro e w8 ⟨rfl, bel8⟩
  have hz8 := bel8.size
  have B8 := B7.trans (bel8.mono B7.size)
  have sp_8 := sp_7.below bel8
  have x0_8 := x0_7.below bel8
  have gg_8 := gg_7.below bel8
  have y0_8 := y0_7.below bel8
  clear sp_7 x0_7 gg_7 y0_7
  clear y0_8
  obtain ⟨k0, ek0, ek0_0, ek1_0⟩ : ∃ y : Int, y = ((1 + 12 * os.length : Nat) : Int) ∧ 0 ≤ y ∧ y ≤ 549755813888 := ⟨_, rfl, by omega, by omega⟩
  have EK0 := Lib.hid ek0
  clear ek0
  go_wp2_with fail
  refine (markO _ _ _ _ _ 1 1 k0 _ (by rfl) (EK0.out) x0_8 (hl0) (by omega) (by omega)).mono ?_
  rintro e w9 ⟨rfl, mk_x0, g9⟩
  have hz9 := g9.size
  have B9 := below_grown B8 g9 B8.size (fun b hb => by have := h_x0 _ hb; omega)
  have sp_9 := sp_8.grown g9 (fun b hb h => by have := h_x0 _ h; have := h_sp _ hb; omega)
  have gg_9 := gg_8.grown g9 (fun b hb h => by have := h_x0 _ h; have := h_gg _ hb; omega)
  clear sp_8 x0_8 gg_8
  have x0_9 := mk_x0
  clear mk_x0
  clear x0_9
  go_wp2_with fail
  refine (eqOpS _ _ _ _ res _ gg_9.rd sp_9.rd hres).mono ?_
  rintro e w10 ⟨rfl, bel10⟩
  have hz10 := bel10.size
  have B10 := B9.trans (bel10.mono B9.size)
  have sp_10 := sp_9.below bel10
  have gg_10 := gg_9.below bel10
  clear sp_9 gg_9
  go_wp2_with fail
  refine (markO _ _ _ _ _ 1 1 y _ (by rfl) (HY.out) gg_10 (hres) (by omega) (by omega)).mono ?_
  rintro e w11 ⟨rfl, mk_gg, g11⟩
  have hz11 := g11.size
  have B11 := below_grown B10 g11 B10.size (fun b hb => by have := h_gg _ hb; omega)
  have sp_11 := sp_10.grown g11 (fun b hb h => by have := h_gg _ h; have := h_sp _ hb; omega)
  clear sp_10 gg_10
  have gg_11 := mk_gg
  clear mk_gg
  go_wp2_with fail
  refine (heldO _ _ _ _ 1 1 y _ (by rfl) (HY.out) gg_11 (hres) (by omega) (by omega)).mono ?_
  rintro e w12 ⟨rfl, bel12⟩
  have hz12 := bel12.size
  have B12 := B11.trans (bel12.mono B11.size)
  have sp_12 := sp_11.below bel12
  have gg_12 := gg_11.below bel12
  clear sp_11 gg_11
  go_wp2_with fail
  refine (toOpS _ _ os _ (RdO.below HR0.out B12) hl0).mono ?_
  rintro e w13 ⟨b_z0, rfl, hb_z0, own_z0, bel13⟩
  have hz13 := bel13.size
  have B13 := B12.trans (bel13.mono B12.size)
  have sp_13 := sp_12.below bel13
  have gg_13 := gg_12.below bel13
  clear sp_12 gg_12
  have z0_13 := newRowO hb_z0 own_z0
  have h_z0 := z0_13.hi
  clear own_z0 hb_z0
  go_wp2_with fail
  refine (HI.out _ _ _ z0_13.rd).mono ?_
  rintro e w14 ⟨a_hh, c_hh, rfl, row_hh, bel14⟩
  have hz14 := bel14.size
  have B14 := B13.trans (bel14.mono B13.size)
  have sp_14 := sp_13.below bel14
  have gg_14 := gg_13.below bel14
  have z0_14 := z0_13.below bel14
  clear sp_13 gg_13 z0_13
  have hh_14 := row_hh
  have h_hh := hh_14.hi
  clear row_hh
  clear z0_14
  go_wp2_with fail
  refine (eqOpS _ _ _ _ res _ hh_14.rd sp_14.rd hres).mono ?_
  rintro e w15 ⟨rfl, bel15⟩
  have hz15 := bel15.size
  have B15 := B14.trans (bel15.mono B14.size)
  have sp_15 := sp_14.below bel15
  have gg_15 := gg_14.below bel15
  have hh_15 := hh_14.below bel15
  clear sp_14 gg_14 hh_14
  clear hh_15
  clear sp_15
  go_wp2_with fail
  refine (heldO _ _ _ _ 1 1 y _ (by rfl) (HY.out) gg_15 (hres) (by omega) (by omega)).mono ?_
  rintro e w16 ⟨rfl, bel16⟩
  have hz16 := bel16.size
  have B16 := B15.trans (bel16.mono B15.size)
  have gg_16 := gg_15.below bel16
  clear gg_15
  go_wp2
  go_ret
  exact ⟨rfl, B16⟩

end Go.Proofs.Ytdbnflgckcjlcaa.ClD
