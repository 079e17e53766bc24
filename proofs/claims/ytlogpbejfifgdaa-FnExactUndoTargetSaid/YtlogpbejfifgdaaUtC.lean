/-
  The walk of the law FnExactUndoTarget: it returns true. For every argument; no condition.
-/
import Derived.Test.YtlogpbejfifgdaaK5
import Derived.Test.YtlogpbejfifgdaaUtB
namespace Go.Proofs.Ytlogpbejfifgdaa.UtC
open Go.RowKit Go.Proofs.Ytlogpbejfifgdaa.Base Go.Proofs.Ytlogpbejfifgdaa.St Go.Proofs.Ytlogpbejfifgdaa.StB Go.Proofs.Ytlogpbejfifgdaa.Vec Go.Proofs.Ytlogpbejfifgdaa.Row Go.Proofs.Ytlogpbejfifgdaa.RowB Go.Proofs.Ytlogpbejfifgdaa.OpA Go.Proofs.Ytlogpbejfifgdaa.OpB Go.Proofs.Ytlogpbejfifgdaa.OpT Go.Proofs.Ytlogpbejfifgdaa.LgA Go.Proofs.Ytlogpbejfifgdaa.LgB Go.Proofs.Ytlogpbejfifgdaa.LgC Go.Proofs.Ytlogpbejfifgdaa.LgD Go.Proofs.Ytlogpbejfifgdaa.LgE Go.Proofs.Ytlogpbejfifgdaa.LgP Go.Proofs.Ytlogpbejfifgdaa.LgT Go.Proofs.Ytlogpbejfifgdaa.UtA Go.Proofs.Ytlogpbejfifgdaa.UtB
set_option linter.unusedVariables false

set_option maxRecDepth 100000 in
set_option maxHeartbeats 4000000 in
theorem walk (a0 : Option Addr) (n0 : Nat) (os : List OpV) (who : Int) (w : World) (rr0 : RdO w a0 os) (mm0 : os.length ≤ maxLen) (tt0 : ∀ k, k < os.length → (os.getD k zop).tx.size ≤ maxLen) (ww : (Lit.int .i64 who).wf = true) :
    Calls Try.prog 6 #[.slice a0 os.length n0, .int .i64 who] w fun e w' => e = .returned (.bool true) ∧ Below w.heap.size w w' := by
  have HT0 := Lib.hid tt0
  have HR0 := Lib.hid rr0
  have HZ0 := Lib.hid (fun left W (h : Below w.heap.size w W) (hb : 0 ≤ left ∧ left ≤ 1048576) => szOpS a0 n0 os left W (RdO.below rr0 h) mm0 tt0 hb)
  clear rr0 mm0 tt0
  have B0 := Below.refl w.heap.size w
  go_enter Try.func6, Try.ntmps6
  go_wp2_with fail
  refine (HZ0.out _ _ B0 (by omega)).mono ?_
  rintro e w1 ⟨hzz0, bel1⟩
  have hz1 := bel1.size
  have B1 := B0.trans (bel1.mono B0.size)
  rcases hzz0 with rfl | ⟨left0, hl0_0, hl1_0, hl2_0, rfl⟩
  · go_wp2
    go_ret
    exact ⟨rfl, B1⟩
  have hl0 : os.length ≤ 1048576 := by omega
  have hspec := fun a c W h => spec_UndoTarget a c os who W h hl0 HT0.out
  have himpl := fun a c W h => impl_UndoTarget a c os who W h hl0 HT0.out
  obtain ⟨⟨s, t⟩, hst⟩ : ∃ st, st = ut os who := ⟨_, rfl⟩
  rw [← hst] at hspec himpl
  have HS := Lib.hid hspec
  have HI := Lib.hid himpl
  clear hspec himpl hst
  go_wp2_with fail
  refine (toOpS _ _ os _ (RdO.below HR0.out B1) hl0).mono ?_
  rintro e w2 ⟨b_s0, rfl, hb_s0, own_s0, bel2⟩
  have hz2 := bel2.size
  have B2 := B1.trans (bel2.mono B1.size)
  have s0_2 := newRowO hb_s0 own_s0
  clear own_s0
  go_wp2_with fail
  refine (HS.out _ _ _ s0_2.rd).mono ?_
  rintro e w3 ⟨rfl, bel3⟩
  have hz3 := bel3.size
  have B3 := (B2.trans (bel3.mono B2.size)).alloc (by omega) (.cells #[.int .i64 s, .int .i64 t] 25)
  clear s0_2
  go_wp2_with fail
  refine (toOpS _ _ os _ (RdO.below HR0.out B3) hl0).mono ?_
  rintro e w4 ⟨b_x0, rfl, hb_x0, own_x0, bel4⟩
  obtain ⟨hc4, hf4⟩ := oldCells bel4
  have hz4 : w3.heap.size < w4.heap.size := by have := bel4.size; simp at this; omega
  have B4 := B3.trans (bel4.mono (by simp; omega))
  have x0_4 := newRowO hb_x0 own_x0
  clear own_x0
  go_wp2_with fail
  refine (HI.out _ _ _ x0_4.rd).mono ?_
  rintro e w5 ⟨rfl, bel5⟩
  obtain ⟨hc5, hf5⟩ := oldCells bel5
  have hz5 : w3.heap.size < w5.heap.size := by have := bel5.size; omega
  have B5 := (B4.trans (bel5.mono (by omega))).alloc (by omega) (.cells #[.int .i64 s, .int .i64 t] 25)
  have x0_5 := x0_4.below bel5
  have HX5 := Lib.hid (x0_5.rd.below ((Below.refl _ _).alloc (Nat.le_refl _) (.cells #[.int .i64 s, .int .i64 t] 25)))
  clear x0_4 x0_5
  go_wp2_with fail
  refine (eqStamp_refl _ _ _).mono ?_
  rintro e w6 ⟨rfl, bel6⟩
  have hz6 : w5.heap.size < w6.heap.size := by have := bel6.size; simp at this; omega
  have B6 := B5.trans (bel6.mono (by simp; omega))
  have HX6 := Lib.hid (HX5.out.below bel6)
  clear hc4 hf4 hc5 hf5 HX5
  go_wp2_with fail
  refine (toOpS _ _ os _ (RdO.below HR0.out B6) hl0).mono ?_
  rintro e w7 ⟨b_y0, rfl, hb_y0, own_y0, bel7⟩
  have hz7 := bel7.size
  have B7 := B6.trans (bel7.mono (by omega))
  have y0_7 := newRowO hb_y0 own_y0
  go_wp2_with fail
  refine (eqOpS _ _ _ _ os _ (HX6.out.below bel7) y0_7.rd hl0).mono ?_
  rintro e w8 ⟨rfl, bel8⟩
  go_wp2
  go_ret
  exact ⟨rfl, B7.trans (bel8.mono (by omega))⟩

end Go.Proofs.Ytlogpbejfifgdaa.UtC
