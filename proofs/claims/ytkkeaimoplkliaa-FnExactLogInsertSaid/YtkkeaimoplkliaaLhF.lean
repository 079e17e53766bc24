/-
  The walk of the law FnExactLogInsert: it returns true. For every argument; no condition.
-/
import Derived.Test.YtkkeaimoplkliaaLgT
import Derived.Test.YtkkeaimoplkliaaLhD
import Derived.Deep.RegionHeld3
import Derived.Deep.DeepCutAuto
namespace Go.Proofs.Ytkkeaimoplkliaa.LhF
open Go.RowKit Go.Proofs.Ytkkeaimoplkliaa.Base Go.Proofs.Ytkkeaimoplkliaa.St Go.Proofs.Ytkkeaimoplkliaa.StB Go.Proofs.Ytkkeaimoplkliaa.Vec Go.Proofs.Ytkkeaimoplkliaa.Row Go.Proofs.Ytkkeaimoplkliaa.RowB Go.Proofs.Ytkkeaimoplkliaa.VecA Go.Proofs.Ytkkeaimoplkliaa.OpA Go.Proofs.Ytkkeaimoplkliaa.OpB Go.Proofs.Ytkkeaimoplkliaa.OpT Go.Proofs.Ytkkeaimoplkliaa.LgA Go.Proofs.Ytkkeaimoplkliaa.LgB Go.Proofs.Ytkkeaimoplkliaa.LgC Go.Proofs.Ytkkeaimoplkliaa.LgE Go.Proofs.Ytkkeaimoplkliaa.LgP Go.Proofs.Ytkkeaimoplkliaa.LgT Go.Proofs.Ytkkeaimoplkliaa.LhB Go.Proofs.Ytkkeaimoplkliaa.LhD
set_option linter.unusedVariables false

theorem boxL (w0 : World) (o : OpV) : (w0.alloc (.cells #[.int .i64 o.i, .int .i64 o.j, .int .i64 o.k, .int .i64 o.ts, .int .i64 o.ta, .int .i64 o.fs, .int .i64 o.fa, .int .i64 o.ns, .int .i64 o.na, .int .i64 o.v, .bool o.en, .string o.tx] 25)).rangeAt w0.heap.size 0 (opL o) := by
  intro j u hu
  rw [Nat.zero_add, World.cell?_alloc_at _ _ _ _ rfl, ← hu]
  show ((opL o).toArray)[j]? = (opL o)[j]?
  simp
theorem keepS {W0 W W' : World} {n : Nat} {o : OpV} (h : C12 W n 0 o ∧ Below W0.heap.size W0 W) (hb : Below W.heap.size W W') (hr : W0.rangeAt n 0 (opL o)) : C12 W' n 0 o ∧ Below W0.heap.size W0 W' := by
  have hB := h.2.trans (hb.mono h.2.size)
  exact ⟨c12 (rangeAt_below hr hB (rangeAt_lt hr)), hB⟩
theorem RowO.lower {lo lo' : Nat} {w : World} {a : Option Addr} {c n : Nat} {f : Nat → OpV} (h : RowO lo w a c n f) (hl : lo' ≤ lo) : RowO lo' w a c n f := by
  rcases h with h | ⟨b, ha, hb, h⟩
  · exact .inl h
  · exact .inr ⟨b, ha, by omega, h⟩
theorem insL_len (os : List OpV) (o : OpV) (h : os.length ≤ 1048576) : (insL os o).length ≤ 1048576 := by
  unfold insL
  split
  · split
    · rename_i h1
      simp only [Bool.and_eq_true, decide_eq_true_eq] at h1
      omega
    · exact h
  · exact Nat.zero_le _

set_option maxRecDepth 100000 in
set_option maxHeartbeats 8000000 in
theorem walkLogInsert (a0 : Option Addr) (n0 : Nat) (os : List OpV) (o : OpV) (w : World) (rr0 : RdO w a0 os) (mm0 : os.length ≤ maxLen) (tt0 : ∀ k, k < os.length → (os.getD k zop).tx.size ≤ maxLen) (tt1 : o.tx.size ≤ maxLen) :
    Calls Try.prog 5 #[.slice a0 os.length n0, .agg #[.int .i64 o.i, .int .i64 o.j, .int .i64 o.k, .int .i64 o.ts, .int .i64 o.ta, .int .i64 o.fs, .int .i64 o.fa, .int .i64 o.ns, .int .i64 o.na, .int .i64 o.v, .bool o.en, .string o.tx]] w fun e w' => e = .returned (.bool true) ∧ Below w.heap.size w w' := by
  have HT0 := Lib.hid tt0
  have HR0 := Lib.hid rr0
  have HZ0 := Lib.hid (fun left W (h : Below w.heap.size w W) (hb : 0 ≤ left ∧ left ≤ 1048576) => szOpS a0 n0 os left W (RdO.below rr0 h) mm0 tt0 hb)
  clear rr0 mm0 tt0
  have HT1 := Lib.hid tt1
  have HZ1 := Lib.hid (fun left W (hb : 0 ≤ left ∧ left ≤ 1048576) => szOp o left W tt1 hb)
  clear tt1
  have B0 : Below w.heap.size w (w.alloc (.cells #[.int .i64 o.i, .int .i64 o.j, .int .i64 o.k, .int .i64 o.ts, .int .i64 o.ta, .int .i64 o.fs, .int .i64 o.fa, .int .i64 o.ns, .int .i64 o.na, .int .i64 o.v, .bool o.en, .string o.tx] 25)) := (Below.refl _ _).alloc (Nat.le_refl _) _
  have bx_0 : (w.alloc (.cells #[.int .i64 o.i, .int .i64 o.j, .int .i64 o.k, .int .i64 o.ts, .int .i64 o.ta, .int .i64 o.fs, .int .i64 o.fa, .int .i64 o.ns, .int .i64 o.na, .int .i64 o.v, .bool o.en, .string o.tx] 25)).rangeAt w.heap.size 0 (opL o) := boxL w o
  have hzb : w.heap.size < (w.alloc (.cells #[.int .i64 o.i, .int .i64 o.j, .int .i64 o.k, .int .i64 o.ts, .int .i64 o.ta, .int .i64 o.fs, .int .i64 o.fa, .int .i64 o.ns, .int .i64 o.na, .int .i64 o.v, .bool o.en, .string o.tx] 25)).heap.size := by simp
  have BB0 := Lib.hid B0
  have BBx := Lib.hid bx_0
  have BBz := Lib.hid hzb
  clear B0 bx_0 hzb
  go_enter Try.func5, Try.ntmps5
  go_wp2_with fail
  have B0 := BB0.out
  have bx_0 := BBx.out
  have hzb := BBz.out
  clear BB0 BBx BBz
  generalize (w.alloc (.cells #[.int .i64 o.i, .int .i64 o.j, .int .i64 o.k, .int .i64 o.ts, .int .i64 o.ta, .int .i64 o.fs, .int .i64 o.fa, .int .i64 o.ns, .int .i64 o.na, .int .i64 o.v, .bool o.en, .string o.tx] 25)) = w0 at B0 bx_0 hzb ⊢
  refine (HZ0.out _ _ B0 (by omega)).mono ?_
  rintro e w1 ⟨hzz0, bel1⟩
  have hz1 := bel1.size
  have B1 := B0.trans (bel1.mono B0.size)
  have bx_1 := rangeAt_below bx_0 bel1 (rangeAt_lt bx_0)
  clear bx_0
  rcases hzz0 with rfl | ⟨left0, hl0_0, hl1_0, hl2_0, rfl⟩
  · go_wp2
    go_ret
    exact ⟨rfl, B1⟩
  have hl0 : os.length ≤ 1048576 := by omega
  rcases szV_cases o left0 (by omega) with hv1 | ⟨hv0_1, hv1_1⟩
  · have HZZ := Lib.hid (fun W => HZ1.out left0 W (by omega))
    rw [hv1] at HZZ
    clear hv1
    have BX := Lib.hid bx_1
    go_wp2_with (refine loadL rfl _ rfl rfl BX.out ?_)
    refine (HZZ.out _).mono ?_
    rintro e w2 ⟨rfl, bel2⟩
    go_wp2
    go_ret
    exact ⟨rfl, B1.trans (bel2.mono B1.size)⟩
  have HZZ := Lib.hid (fun W => HZ1.out left0 W (by omega))
  generalize szV o left0 = left1 at HZZ hv0_1 hv1_1
  have BX := Lib.hid bx_1
  go_wp2_with (refine loadL rfl _ rfl rfl BX.out ?_)
  refine (HZZ.out _).mono ?_
  rintro e w2 ⟨rfl, bel2⟩
  have hz2 := bel2.size
  have B2 := B1.trans (bel2.mono B1.size)
  have bx_2 := rangeAt_below bx_1 bel2 (rangeAt_lt bx_1)
  clear bx_1
  have hspec := fun a c W h (hc : os.length ≤ c) => spec_LogInsert a c os o W h hl0 hc HT0.out HT1.out
  have himpl := fun a c W h (hc : os.length ≤ c) => impl_LogInsert a c os o W h hl0 hc HT0.out HT1.out
  have hres : (insL os o).length ≤ 1048576 := by exact insL_len os o hl0
  generalize insT os o = flag at hspec himpl
  generalize insL os o = res at hspec himpl hres
  have HS := Lib.hid hspec
  have HI := Lib.hid himpl
  clear hspec himpl
  obtain ⟨y, hy, hy0, hy1⟩ : ∃ y : Int, y = ((1 + 12 * res.length : Nat) : Int) ∧ 0 ≤ y ∧ y ≤ 1099511627776 := ⟨_, rfl, by omega, by omega⟩
  have HY := Lib.hid hy
  clear hy
  have BX := Lib.hid bx_2
  go_upto_region 8 with (fail)
  go_cut [6, 7] (fun sa sb wx => ∃ a c, sa = .slice a res.length c ∧ sb = .bool flag ∧ RowO w2.heap.size wx a c res.length (fun i => res.getD i zop) ∧ Below w2.heap.size w2 wx)
  case first =>
    clear bx_2
    go_region_held3 (fun W => C12 W w.heap.size 0 o ∧ Below w2.heap.size w2 W)
      (first | exact ⟨c12 BX.out, (Below.refl _ _).drew⟩ | exact keepS (by assumption) bel_s BX.out | exact keepS (by assumption) bel_o BX.out | exact keepS (by assumption) bel_q BX.out)
      (first
        | (go_at_call 21; refine (toOpS _ _ os _ (RdO.below HR0.out (B2.trans (Below.mono (And.right (by assumption)) B2.size))) hl0).mono ?_; rintro e ws ⟨b_s, rfl, hb_s, own_s, bel_s⟩)
        | (go_at_call 17; refine (toOp o _).mono ?_; rintro e wo ⟨rfl, bel_o⟩)
        | (go_at_call 24; refine (HS.out _ _ _ (by first | exact (own_s.below bel_o).rd | exact own_s.rd) (Nat.le_refl _)).mono ?_; rintro e wS ⟨a_q, c_q, rfl, row_q, bel_q⟩; have row_q' := RowO.lower row_q (show w2.heap.size ≤ _ from Below.size (And.right (by assumption : C12 _ w.heap.size 0 o ∧ Below w2.heap.size w2 _)))))
    all_goals (go_wp2_with fail; go_meet; exact ⟨a_q, c_q, rfl, rfl, row_q', And.right (by assumption : C12 _ w.heap.size 0 o ∧ Below w2.heap.size w2 _)⟩)
  case rest =>
    obtain ⟨a_sp, c_sp, rfl, rfl, row_sp, bel3⟩ := hcut
    have hz3 := bel3.size
    have B3 := B2.trans (bel3.mono B2.size)
    have bx_3 := rangeAt_below bx_2 bel3 (rangeAt_lt bx_2)
    clear bx_2
    have sp_3 := row_sp
    have h_sp := sp_3.hi
    clear row_sp
    go_wp2_with fail
    refine (toOpS _ _ os _ (RdO.below HR0.out B3) hl0).mono ?_
    rintro e w4 ⟨b_x0, rfl, hb_x0, own_x0, bel4⟩
    have hz4 := bel4.size
    have B4 := B3.trans (bel4.mono B3.size)
    have sp_4 := sp_3.below bel4
    clear sp_3
    have bx_4 := rangeAt_below bx_3 bel4 (rangeAt_lt bx_3)
    clear bx_3
    have x0_4 := newRowO hb_x0 own_x0
    have h_x0 := x0_4.hi
    clear own_x0 hb_x0
    have BX := Lib.hid bx_4
    go_wp2_with (refine loadL rfl _ rfl rfl BX.out ?_)
    refine (toOp o _).mono ?_
    rintro e w5 ⟨rfl, bel5⟩
    have hz5 := bel5.size
    have B5 := B4.trans (bel5.mono B4.size)
    have sp_5 := sp_4.below bel5
    have x0_5 := x0_4.below bel5
    clear sp_4 x0_4
    have bx_5 := rangeAt_below bx_4 bel5 (rangeAt_lt bx_4)
    clear bx_4
    go_wp2_with fail
    refine (HI.out _ _ _ x0_5.rd (Nat.le_refl _)).mono ?_
    rintro e w6 ⟨a_gg, c_gg, rfl, row_gg, bel6⟩
    have hz6 := bel6.size
    have B6 := B5.trans (bel6.mono B5.size)
    have sp_6 := sp_5.below bel6
    have x0_6 := x0_5.below bel6
    clear sp_5 x0_5
    have bx_6 := rangeAt_below bx_5 bel6 (rangeAt_lt bx_5)
    clear bx_5
    have gg_6 := row_gg
    have h_gg := gg_6.hi
    clear row_gg
    go_wp2_with fail
    refine (eqOpS _ _ _ _ res _ gg_6.rd sp_6.rd hres).mono ?_
    rintro e w7 ⟨rfl, bel7⟩
    have hz7 := bel7.size
    have B7 := B6.trans (bel7.mono B6.size)
    have sp_7 := sp_6.below bel7
    have x0_7 := x0_6.below bel7
    have gg_7 := gg_6.below bel7
    clear sp_6 x0_6 gg_6
    have bx_7 := rangeAt_below bx_6 bel7 (rangeAt_lt bx_6)
    clear bx_6
    go_wp2_with fail
    refine (toOpS _ _ os _ (RdO.below HR0.out B7) hl0).mono ?_
    rintro e w8 ⟨b_y0, rfl, hb_y0, own_y0, bel8⟩
    have hz8 := bel8.size
    have B8 := B7.trans (bel8.mono B7.size)
    have sp_8 := sp_7.below bel8
    have x0_8 := x0_7.below bel8
    have gg_8 := gg_7.below bel8
    clear sp_7 x0_7 gg_7
    have bx_8 := rangeAt_below bx_7 bel8 (rangeAt_lt bx_7)
    clear bx_7
    have y0_8 := newRowO hb_y0 own_y0
    have h_y0 := y0_8.hi
    clear own_y0 hb_y0
    go_wp2_with fail
    refine (eqOpS _ _ _ _ os _ x0_8.rd y0_8.rd hl0).mono ?_
    rintro e w9 ⟨rfl, bel9⟩
    have hz9 := bel9.size
    have B9 := B8.trans (bel9.mono B8.size)
    have sp_9 := sp_8.below bel9
    have x0_9 := x0_8.below bel9
    have gg_9 := gg_8.below bel9
    have y0_9 := y0_8.below bel9
    clear sp_8 x0_8 gg_8 y0_8
    have bx_9 := rangeAt_below bx_8 bel9 (rangeAt_lt bx_8)
    clear bx_8
    clear y0_9
    obtain ⟨k0, ek0, ek0_0, ek1_0⟩ : ∃ y : Int, y = ((1 + 12 * os.length : Nat) : Int) ∧ 0 ≤ y ∧ y ≤ 549755813888 := ⟨_, rfl, by omega, by omega⟩
    have EK0 := Lib.hid ek0
    clear ek0
    go_wp2_with fail
    refine (markO _ _ _ _ _ 1 1 k0 _ (by rfl) (EK0.out) x0_9 (hl0) (by omega) (by omega)).mono ?_
    rintro e w10 ⟨rfl, mk_x0, g10⟩
    have hz10 := g10.size
    have B10 := below_grown B9 g10 B9.size (fun b hb => by have := h_x0 _ hb; omega)
    have sp_10 := sp_9.grown g10 (fun b hb h => by have := h_x0 _ h; have := h_sp _ hb; omega)
    have gg_10 := gg_9.grown g10 (fun b hb h => by have := h_x0 _ h; have := h_gg _ hb; omega)
    clear sp_9 x0_9 gg_9
    have bx_10 := rangeAt_block bx_9 (g10.block _ (rangeAt_lt bx_9) (fun h => by have := h_x0 _ h.symm; omega))
    clear bx_9
    have x0_10 := mk_x0
    clear mk_x0
    clear x0_10
    go_wp2_with fail
    refine (eqOpS _ _ _ _ res _ gg_10.rd sp_10.rd hres).mono ?_
    rintro e w11 ⟨rfl, bel11⟩
    have hz11 := bel11.size
    have B11 := B10.trans (bel11.mono B10.size)
    have sp_11 := sp_10.below bel11
    have gg_11 := gg_10.below bel11
    clear sp_10 gg_10
    have bx_11 := rangeAt_below bx_10 bel11 (rangeAt_lt bx_10)
    clear bx_10
    go_wp2_with fail
    refine (markO _ _ _ _ _ 1 1 y _ (by rfl) (HY.out) gg_11 (hres) (by omega) (by omega)).mono ?_
    rintro e w12 ⟨rfl, mk_gg, g12⟩
    have hz12 := g12.size
    have B12 := below_grown B11 g12 B11.size (fun b hb => by have := h_gg _ hb; omega)
    have sp_12 := sp_11.grown g12 (fun b hb h => by have := h_gg _ h; have := h_sp _ hb; omega)
    clear sp_11 gg_11
    have bx_12 := rangeAt_block bx_11 (g12.block _ (rangeAt_lt bx_11) (fun h => by have := h_gg _ h.symm; omega))
    clear bx_11
    have gg_12 := mk_gg
    clear mk_gg
    go_wp2_with fail
    refine (heldO _ _ _ _ 1 1 y _ (by rfl) (HY.out) gg_12 (hres) (by omega) (by omega)).mono ?_
    rintro e w13 ⟨rfl, bel13⟩
    have hz13 := bel13.size
    have B13 := B12.trans (bel13.mono B12.size)
    have sp_13 := sp_12.below bel13
    have gg_13 := gg_12.below bel13
    clear sp_12 gg_12
    have bx_13 := rangeAt_below bx_12 bel13 (rangeAt_lt bx_12)
    clear bx_12
    have BX := Lib.hid bx_13
    go_upto_region 27 with (fail)
    go_cut [14, 15] (fun sa sb wx => ∃ a c, sa = .slice a res.length c ∧ sb = .bool flag ∧ RowO w13.heap.size wx a c res.length (fun i => res.getD i zop) ∧ Below w13.heap.size w13 wx)
    case first =>
      clear bx_13
      go_region_held3 (fun W => C12 W w.heap.size 0 o ∧ Below w13.heap.size w13 W)
        (first | exact ⟨c12 BX.out, (Below.refl _ _).drew⟩ | exact keepS (by assumption) bel_s BX.out | exact keepS (by assumption) bel_o BX.out | exact keepS (by assumption) bel_q BX.out)
        (first
          | (go_at_call 21; refine (toOpS _ _ os _ (RdO.below HR0.out (B13.trans (Below.mono (And.right (by assumption)) B13.size))) hl0).mono ?_; rintro e ws ⟨b_s, rfl, hb_s, own_s, bel_s⟩)
          | (go_at_call 17; refine (toOp o _).mono ?_; rintro e wo ⟨rfl, bel_o⟩)
          | (go_at_call 25; refine (HI.out _ _ _ (by first | exact (own_s.below bel_o).rd | exact own_s.rd) (Nat.le_refl _)).mono ?_; rintro e wS ⟨a_q, c_q, rfl, row_q, bel_q⟩; have row_q' := RowO.lower row_q (show w13.heap.size ≤ _ from Below.size (And.right (by assumption : C12 _ w.heap.size 0 o ∧ Below w13.heap.size w13 _)))))
      all_goals (go_wp2_with fail; go_meet; exact ⟨a_q, c_q, rfl, rfl, row_q', And.right (by assumption : C12 _ w.heap.size 0 o ∧ Below w13.heap.size w13 _)⟩)
    case rest =>
      obtain ⟨a_hh, c_hh, rfl, rfl, row_hh, bel14⟩ := hcut
      have hz14 := bel14.size
      have B14 := B13.trans (bel14.mono B13.size)
      have sp_14 := sp_13.below bel14
      have gg_14 := gg_13.below bel14
      clear sp_13 gg_13
      have bx_14 := rangeAt_below bx_13 bel14 (rangeAt_lt bx_13)
      clear bx_13
      have hh_14 := row_hh
      have h_hh := hh_14.hi
      clear row_hh
      go_wp2_with fail
      refine (eqOpS _ _ _ _ res _ hh_14.rd sp_14.rd hres).mono ?_
      rintro e w15 ⟨rfl, bel15⟩
      have hz15 := bel15.size
      have B15 := B14.trans (bel15.mono B14.size)
      have sp_15 := sp_14.below bel15
      have gg_15 := gg_14.below bel15
      have hh_15 := hh_14.below bel15
      clear sp_14 gg_14 hh_14
      have bx_15 := rangeAt_below bx_14 bel15 (rangeAt_lt bx_14)
      clear bx_14
      clear hh_15
      clear sp_15
      go_wp2_with fail
      refine (heldO _ _ _ _ 1 1 y _ (by rfl) (HY.out) gg_15 (hres) (by omega) (by omega)).mono ?_
      rintro e w16 ⟨rfl, bel16⟩
      have hz16 := bel16.size
      have B16 := B15.trans (bel16.mono B15.size)
      have gg_16 := gg_15.below bel16
      clear gg_15
      have bx_16 := rangeAt_below bx_15 bel16 (rangeAt_lt bx_15)
      clear bx_15
      go_wp2
      go_ret
      exact ⟨rfl, B16⟩

end Go.Proofs.Ytkkeaimoplkliaa.LhF
