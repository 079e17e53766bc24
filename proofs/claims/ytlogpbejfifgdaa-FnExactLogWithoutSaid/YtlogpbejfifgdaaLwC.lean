/-
  The walk of the law FnExactLogWithout: it returns true. For every argument; no condition.
-/
import Derived.Test.YtlogpbejfifgdaaK5
import Derived.Test.YtlogpbejfifgdaaLwB
import Derived.Test.YtlogpbejfifgdaaLwE
namespace Go.Proofs.Ytlogpbejfifgdaa.LwC
open Go.RowKit Go.Proofs.Ytlogpbejfifgdaa.Base Go.Proofs.Ytlogpbejfifgdaa.St Go.Proofs.Ytlogpbejfifgdaa.StB Go.Proofs.Ytlogpbejfifgdaa.Vec Go.Proofs.Ytlogpbejfifgdaa.Row Go.Proofs.Ytlogpbejfifgdaa.RowB Go.Proofs.Ytlogpbejfifgdaa.OpA Go.Proofs.Ytlogpbejfifgdaa.OpB Go.Proofs.Ytlogpbejfifgdaa.OpT Go.Proofs.Ytlogpbejfifgdaa.LgA Go.Proofs.Ytlogpbejfifgdaa.LgB Go.Proofs.Ytlogpbejfifgdaa.LgC Go.Proofs.Ytlogpbejfifgdaa.LgE Go.Proofs.Ytlogpbejfifgdaa.LgP Go.Proofs.Ytlogpbejfifgdaa.LgT Go.Proofs.Ytlogpbejfifgdaa.LwA Go.Proofs.Ytlogpbejfifgdaa.LwB Go.Proofs.Ytlogpbejfifgdaa.LwE
set_option linter.unusedVariables false

/-- The box of a stamp stands at block k. -/
def Bs (k : Nat) (s t : Int) (W : World) : Prop := k < W.heap.size ∧ W.cell? ⟨k, 0, none⟩ = some (.int .i64 s) ∧ W.cell? ⟨k, 1, none⟩ = some (.int .i64 t)
theorem Bs.new (w : World) (s t : Int) (T : TypeId) : Bs w.heap.size s t (w.alloc (.cells #[.int .i64 s, .int .i64 t] T)) := by
  refine ⟨by simp, ?_⟩
  simp [go_sem]
theorem Bs.below {k : Nat} {s t : Int} {W W' : World} (h : Bs k s t W) (hb : Below W.heap.size W W') : Bs k s t W' := by
  obtain ⟨h0, h1, h2⟩ := h
  have := hb.size
  exact ⟨by omega, (hb.cell (p := ⟨k, 0, none⟩) h0).trans h1, (hb.cell (p := ⟨k, 1, none⟩) h0).trans h2⟩
theorem Bs.grown {k : Nat} {s t : Int} {W W' : World} {r : Option Nat} (h : Bs k s t W) (hb : W.grownBy W' r) (hne : r ≠ some k) : Bs k s t W' := by
  obtain ⟨h0, h1, h2⟩ := h
  have e := hb.block k h0 (fun e => hne e.symm)
  have := hb.size
  exact ⟨by omega, by simpa only [World.cell?, e] using h1, by simpa only [World.cell?, e] using h2⟩
/-- What a region keeps that only makes memory, with the box. -/
def Kp (w0 : World) (n : Nat) (s t : Int) (W : World) : Prop := Below w0.heap.size w0 W ∧ n < W.heap.size ∧ W.cell? ⟨n, 0, none⟩ = some (.int .i64 s) ∧ W.cell? ⟨n, 1, none⟩ = some (.int .i64 t)
theorem Kp.start {w0 : World} {n : Nat} {s t : Int} (h : Bs n s t w0) : Kp w0 n s t w0.drew := ⟨(Below.refl _ _).drew, h.1, h.2.1, h.2.2⟩
theorem Kp.next {w0 W w2 : World} {n : Nat} {s t : Int} (h : Below w0.heap.size w0 W ∧ n < W.heap.size ∧ W.cell? ⟨n, 0, none⟩ = some (.int .i64 s) ∧ W.cell? ⟨n, 1, none⟩ = some (.int .i64 t)) (hb : Below W.heap.size W w2) :
    Below w0.heap.size w0 w2 ∧ n < w2.heap.size ∧ w2.cell? ⟨n, 0, none⟩ = some (.int .i64 s) ∧ w2.cell? ⟨n, 1, none⟩ = some (.int .i64 t) := by
  obtain ⟨h0, hz, h1, h2⟩ := h
  have := hb.size
  exact ⟨h0.trans (hb.mono h0.size), by omega, (hb.cell (by show n < _; omega)).trans h1, (hb.cell (by show n < _; omega)).trans h2⟩

set_option maxRecDepth 100000 in
set_option maxHeartbeats 4000000 in
theorem walk (a0 : Option Addr) (n0 : Nat) (os : List OpV) (s t : Int) (w : World) (rr0 : RdO w a0 os) (mm0 : os.length ≤ maxLen) (tt0 : ∀ k, k < os.length → (os.getD k zop).tx.size ≤ maxLen) (ws : (Lit.int .i64 s).wf = true) (wt : (Lit.int .i64 t).wf = true) :
    Calls Try.prog 7 #[.slice a0 os.length n0, .agg #[.int .i64 s, .int .i64 t]] w fun e w' => e = .returned (.bool true) ∧ Below w.heap.size w w' := by
  have HT0 := Lib.hid tt0
  have HR0 := Lib.hid rr0
  have HZ0 := Lib.hid (fun left W (h : Below w.heap.size w W) (hb : 0 ≤ left ∧ left ≤ 1048576) => szOpS a0 n0 os left W (RdO.below rr0 h) mm0 tt0 hb)
  clear rr0 mm0 tt0
  have B0 : Below w.heap.size w (w.alloc (.cells #[.int .i64 s, .int .i64 t] 49)) := (Below.refl _ _).alloc (Nat.le_refl _) _
  have X0 := Lib.hid (Bs.new w s t 49)
  obtain ⟨n, hn⟩ : ∃ n, n = w.heap.size := ⟨_, rfl⟩
  rw [← hn] at X0
  have HN := Lib.hid hn
  have hnw : w.heap.size ≤ n := by omega
  clear hn
  go_enter Try.func7, Try.ntmps7
  go_wp2_with fail
  refine (HZ0.out _ _ B0 (by omega)).mono ?_
  rintro e w1 ⟨hzz0, bel1⟩
  have hz1 := bel1.size
  have B1 := B0.trans (bel1.mono B0.size)
  have bx_1 := Lib.hid (X0.out.below bel1)
  rcases hzz0 with rfl | ⟨left0, hl0_0, hl1_0, hl2_0, rfl⟩
  · go_wp2
    go_ret
    exact ⟨rfl, B1⟩
  have hl0 : os.length ≤ 1048576 := by omega
  have hspec := fun a c W h => spec_LogWithout a c os s t W h hl0 HT0.out
  have himpl := fun a c W h => impl_LogWithout a c os s t W h hl0 HT0.out
  have hres : (lwo os s t).length ≤ 1048576 := by unfold lwo; split <;> first | exact Nat.le_trans (keepTo_len _ _ _) hl0 | exact Nat.zero_le _
  generalize lwo os s t = res at hspec himpl hres
  have HS := Lib.hid hspec
  have HI := Lib.hid himpl
  clear hspec himpl
  obtain ⟨y, hy, hy0, hy1⟩ : ∃ y : Int, y = ((1 + 12 * res.length : Nat) : Int) ∧ 0 ≤ y ∧ y ≤ 1099511627776 := ⟨_, rfl, by omega, by omega⟩
  have HY := Lib.hid hy
  clear hy
  have hbxlo := bx_1.out.1
  have HK := Lib.hid (Kp.start bx_1.out)
  have HB := Lib.hid B1
  go_wp2_with fail
  rw [← HN.out]
  go_region_held3 (fun W => Below w1.heap.size w1 W ∧ n < W.heap.size ∧ W.cell? ⟨n, 0, none⟩ = some (.int .i64 s) ∧ W.cell? ⟨n, 1, none⟩ = some (.int .i64 t))
    (first | exact HK.out | exact Kp.next (by assumption) hb2 | exact Kp.next (by assumption) hb3 | exact Kp.next (by assumption) hb4)
    (first
      | (go_at_call 29; refine (toOpS _ _ os _ (RdO.below HR0.out (HB.out.trans (Below.mono (And.left (by assumption)) HB.out.size))) hl0).mono ?_; rintro e w2 ⟨b2, rfl, hlb2, hown2, hb2⟩; have hrow2 := newRowO hlb2 hown2)
      | (go_at_call 32; refine (toStamp _ _ _).mono ?_; rintro e w3 ⟨rfl, hb3⟩; have hrow3 := hrow2.below hb3)
      | (go_at_call 27; refine (HS.out _ _ _ hrow3.rd).mono ?_; rintro e w4 ⟨a_sp, c_sp, rfl, row_sp, hb4⟩))
  obtain ⟨bel4, hzz, hs3, ha3⟩ := (by assumption : Below w1.heap.size w1 w4 ∧ n < w4.heap.size ∧ w4.cell? ⟨n, 0, none⟩ = some (.int .i64 s) ∧ w4.cell? ⟨n, 1, none⟩ = some (.int .i64 t))
  clear hrow2 hrow3 hown2 hb2 hb3 hb4
  have hz4 := bel4.size
  have B4 := HB.out.trans (bel4.mono HB.out.size)
  have bx_4 := Lib.hid (bx_1.out.below bel4)
  clear bx_1 hzz hs3 ha3 HK HB 
  have sp_4 := row_sp
  have h_sp := sp_4.hi
  clear row_sp
  go_wp2_with fail
  refine (toOpS _ _ os _ (RdO.below HR0.out B4) hl0).mono ?_
  rintro e w5 ⟨b_x0, rfl, hb_x0, own_x0, bel5⟩
  have hz5 := bel5.size
  have B5 := B4.trans (bel5.mono B4.size)
  have bx_5 := Lib.hid (bx_4.out.below bel5)
  have sp_5 := sp_4.below bel5
  clear bx_4 sp_4
  have x0_5 := newRowO hb_x0 own_x0
  have h_x0 := x0_5.hi
  clear own_x0 hb_x0
  obtain ⟨x0, x1, x2⟩ := id bx_5.out
  go_wp2_with fail
  refine (toStamp _ _ _).mono ?_
  rintro e w6 ⟨rfl, bel6⟩
  clear x0 x1 x2
  have hz6 := bel6.size
  have B6 := B5.trans (bel6.mono B5.size)
  have bx_6 := Lib.hid (bx_5.out.below bel6)
  have sp_6 := sp_5.below bel6
  have x0_6 := x0_5.below bel6
  clear bx_5 sp_5 x0_5
  go_wp2_with fail
  refine (HI.out _ _ _ x0_6.rd).mono ?_
  rintro e w7 ⟨a_gg, c_gg, rfl, row_gg, bel7⟩
  have hz7 := bel7.size
  have B7 := B6.trans (bel7.mono B6.size)
  have bx_7 := Lib.hid (bx_6.out.below bel7)
  have sp_7 := sp_6.below bel7
  have x0_7 := x0_6.below bel7
  clear bx_6 sp_6 x0_6
  have gg_7 := row_gg
  have h_gg := gg_7.hi
  clear row_gg
  go_wp2_with fail
  refine (eqOpS _ _ _ _ res _ gg_7.rd sp_7.rd hres).mono ?_
  rintro e w8 ⟨rfl, bel8⟩
  have hz8 := bel8.size
  have B8 := B7.trans (bel8.mono B7.size)
  have bx_8 := Lib.hid (bx_7.out.below bel8)
  have sp_8 := sp_7.below bel8
  have x0_8 := x0_7.below bel8
  have gg_8 := gg_7.below bel8
  clear bx_7 sp_7 x0_7 gg_7
  go_wp2_with fail
  refine (toOpS _ _ os _ (RdO.below HR0.out B8) hl0).mono ?_
  rintro e w9 ⟨b_y0, rfl, hb_y0, own_y0, bel9⟩
  have hz9 := bel9.size
  have B9 := B8.trans (bel9.mono B8.size)
  have bx_9 := Lib.hid (bx_8.out.below bel9)
  have sp_9 := sp_8.below bel9
  have x0_9 := x0_8.below bel9
  have gg_9 := gg_8.below bel9
  clear bx_8 sp_8 x0_8 gg_8
  have y0_9 := newRowO hb_y0 own_y0
  have h_y0 := y0_9.hi
  clear own_y0 hb_y0
  go_wp2_with fail
  refine (eqOpS _ _ _ _ os _ x0_9.rd y0_9.rd hl0).mono ?_
  rintro e w10 ⟨rfl, bel10⟩
  have hz10 := bel10.size
  have B10 := B9.trans (bel10.mono B9.size)
  have bx_10 := Lib.hid (bx_9.out.below bel10)
  have sp_10 := sp_9.below bel10
  have x0_10 := x0_9.below bel10
  have gg_10 := gg_9.below bel10
  have y0_10 := y0_9.below bel10
  clear bx_9 sp_9 x0_9 gg_9 y0_9
  clear y0_10
  obtain ⟨k0, ek0, ek0_0, ek1_0⟩ : ∃ y : Int, y = ((1 + 12 * os.length : Nat) : Int) ∧ 0 ≤ y ∧ y ≤ 549755813888 := ⟨_, rfl, by omega, by omega⟩
  have EK0 := Lib.hid ek0
  clear ek0
  go_wp2_with fail
  refine (markO _ _ _ _ _ 1 1 k0 _ (by rfl) (EK0.out) x0_10 (hl0) (by omega) (by omega)).mono ?_
  rintro e w11 ⟨rfl, mk_x0, g11⟩
  have hz11 := g11.size
  have B11 := below_grown B10 g11 B10.size (fun b hb => by have := h_x0 _ hb; omega)
  have bx_11 := Lib.hid (bx_10.out.grown g11 (fun e => by have := h_x0 _ e; have := hbxlo; omega))
  have sp_11 := sp_10.grown g11 (fun b hb h => by have := h_x0 _ h; have := h_sp _ hb; omega)
  have gg_11 := gg_10.grown g11 (fun b hb h => by have := h_x0 _ h; have := h_gg _ hb; omega)
  clear bx_10 sp_10 x0_10 gg_10
  have x0_11 := mk_x0
  clear mk_x0
  clear x0_11
  go_wp2_with fail
  refine (eqOpS _ _ _ _ res _ gg_11.rd sp_11.rd hres).mono ?_
  rintro e w12 ⟨rfl, bel12⟩
  have hz12 := bel12.size
  have B12 := B11.trans (bel12.mono B11.size)
  have bx_12 := Lib.hid (bx_11.out.below bel12)
  have sp_12 := sp_11.below bel12
  have gg_12 := gg_11.below bel12
  clear bx_11 sp_11 gg_11
  go_wp2_with fail
  refine (markO _ _ _ _ _ 1 1 y _ (by rfl) (HY.out) gg_12 (hres) (by omega) (by omega)).mono ?_
  rintro e w13 ⟨rfl, mk_gg, g13⟩
  have hz13 := g13.size
  have B13 := below_grown B12 g13 B12.size (fun b hb => by have := h_gg _ hb; omega)
  have bx_13 := Lib.hid (bx_12.out.grown g13 (fun e => by have := h_gg _ e; have := hbxlo; omega))
  have sp_13 := sp_12.grown g13 (fun b hb h => by have := h_gg _ h; have := h_sp _ hb; omega)
  clear bx_12 sp_12 gg_12
  have gg_13 := mk_gg
  clear mk_gg
  go_wp2_with fail
  refine (heldO _ _ _ _ 1 1 y _ (by rfl) (HY.out) gg_13 (hres) (by omega) (by omega)).mono ?_
  rintro e w14 ⟨rfl, bel14⟩
  have hz14 := bel14.size
  have B14 := B13.trans (bel14.mono B13.size)
  have bx_14 := Lib.hid (bx_13.out.below bel14)
  have sp_14 := sp_13.below bel14
  have gg_14 := gg_13.below bel14
  clear bx_13 sp_13 gg_13
  have HK := Lib.hid (Kp.start bx_14.out)
  have Hsp := Lib.hid sp_14
  have Hgg := Lib.hid gg_14
  clear sp_14 gg_14
  have HB := Lib.hid B14
  go_wp2_with fail
  go_region_held3 (fun W => Below w14.heap.size w14 W ∧ n < W.heap.size ∧ W.cell? ⟨n, 0, none⟩ = some (.int .i64 s) ∧ W.cell? ⟨n, 1, none⟩ = some (.int .i64 t))
    (first | exact HK.out | exact Kp.next (by assumption) hb15 | exact Kp.next (by assumption) hb16 | exact Kp.next (by assumption) hb17)
    (first
      | (go_at_call 29; refine (toOpS _ _ os _ (RdO.below HR0.out (HB.out.trans (Below.mono (And.left (by assumption)) HB.out.size))) hl0).mono ?_; rintro e w15 ⟨b15, rfl, hlb15, hown15, hb15⟩; have hrow15 := newRowO hlb15 hown15)
      | (go_at_call 32; refine (toStamp _ _ _).mono ?_; rintro e w16 ⟨rfl, hb16⟩; have hrow16 := hrow15.below hb16)
      | (go_at_call 26; refine (HI.out _ _ _ hrow16.rd).mono ?_; rintro e w17 ⟨a_hh, c_hh, rfl, row_hh, hb17⟩))
  obtain ⟨bel17, hzz, hs3, ha3⟩ := (by assumption : Below w14.heap.size w14 w17 ∧ n < w17.heap.size ∧ w17.cell? ⟨n, 0, none⟩ = some (.int .i64 s) ∧ w17.cell? ⟨n, 1, none⟩ = some (.int .i64 t))
  clear hrow15 hrow16 hown15 hb15 hb16 hb17
  have hz17 := bel17.size
  have B17 := HB.out.trans (bel17.mono HB.out.size)
  have bx_17 := Lib.hid (bx_14.out.below bel17)
  have sp_17 := Hsp.out.below bel17
  have gg_17 := Hgg.out.below bel17
  clear bx_14 hzz hs3 ha3 HK HB Hsp Hgg
  have hh_17 := row_hh
  have h_hh := hh_17.hi
  clear row_hh
  go_wp2_with fail
  refine (eqOpS _ _ _ _ res _ hh_17.rd sp_17.rd hres).mono ?_
  rintro e w18 ⟨rfl, bel18⟩
  have hz18 := bel18.size
  have B18 := B17.trans (bel18.mono B17.size)
  have bx_18 := Lib.hid (bx_17.out.below bel18)
  have sp_18 := sp_17.below bel18
  have gg_18 := gg_17.below bel18
  have hh_18 := hh_17.below bel18
  clear bx_17 sp_17 gg_17 hh_17
  clear hh_18
  clear sp_18
  go_wp2_with fail
  refine (heldO _ _ _ _ 1 1 y _ (by rfl) (HY.out) gg_18 (hres) (by omega) (by omega)).mono ?_
  rintro e w19 ⟨rfl, bel19⟩
  have hz19 := bel19.size
  have B19 := B18.trans (bel19.mono B18.size)
  have bx_19 := Lib.hid (bx_18.out.below bel19)
  have gg_19 := gg_18.below bel19
  clear bx_18 gg_18
  go_wp2
  go_ret
  exact ⟨rfl, B19⟩

end Go.Proofs.Ytlogpbejfifgdaa.LwC
