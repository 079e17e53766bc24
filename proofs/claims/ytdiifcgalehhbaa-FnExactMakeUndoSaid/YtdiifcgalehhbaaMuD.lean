/-
  The walk of the law FnExactMakeUndo: it returns true. For every argument; no condition.
-/
import Derived.Test.YtdiifcgalehhbaaMuC
namespace Go.Proofs.Ytdiifcgalehhbaa.MuD
open Go.RowKit Go.Proofs.Ytdiifcgalehhbaa.Base Go.Proofs.Ytdiifcgalehhbaa.St Go.Proofs.Ytdiifcgalehhbaa.StB Go.Proofs.Ytdiifcgalehhbaa.Vec Go.Proofs.Ytdiifcgalehhbaa.Row Go.Proofs.Ytdiifcgalehhbaa.RowB Go.Proofs.Ytdiifcgalehhbaa.OpA Go.Proofs.Ytdiifcgalehhbaa.OpB Go.Proofs.Ytdiifcgalehhbaa.OpD Go.Proofs.Ytdiifcgalehhbaa.OpT Go.Proofs.Ytdiifcgalehhbaa.LgA Go.Proofs.Ytdiifcgalehhbaa.LgB Go.Proofs.Ytdiifcgalehhbaa.LgC Go.Proofs.Ytdiifcgalehhbaa.LgD Go.Proofs.Ytdiifcgalehhbaa.LgE Go.Proofs.Ytdiifcgalehhbaa.LgF Go.Proofs.Ytdiifcgalehhbaa.LgH Go.Proofs.Ytdiifcgalehhbaa.LgI Go.Proofs.Ytdiifcgalehhbaa.LgP Go.Proofs.Ytdiifcgalehhbaa.LgT Go.Proofs.Ytdiifcgalehhbaa.LgW Go.Proofs.Ytdiifcgalehhbaa.LgX Go.Proofs.Ytdiifcgalehhbaa.MuW Go.Proofs.Ytdiifcgalehhbaa.VecE Go.Proofs.Ytdiifcgalehhbaa.MuA Go.Proofs.Ytdiifcgalehhbaa.MuB Go.Proofs.Ytdiifcgalehhbaa.MuC
set_option linter.unusedVariables false

set_option maxRecDepth 200000 in
set_option maxHeartbeats 8000000 in
theorem walk (a0 : Option Addr) (n0 : Nat) (os : List OpV) (s t : Int) (en : Bool) (w : World) (rr0 : RdO w a0 os) (mm0 : os.length ≤ maxLen) (tt0 : ∀ k, k < os.length → (os.getD k zop).tx.size ≤ maxLen) (ws : (Lit.int .i64 s).wf = true) (wt : (Lit.int .i64 t).wf = true) :
    Calls Try.prog 3 #[.slice a0 os.length n0, .agg #[.int .i64 s, .int .i64 t], .bool en] w fun e w' => e = .returned (.bool true) ∧ Below w.heap.size w w' := by
  have HT0 := Lib.hid tt0
  have HR0 := Lib.hid rr0
  have HZ0 := Lib.hid (fun left W (h : Below w.heap.size w W) (hb : 0 ≤ left ∧ left ≤ 1048576) => szOpS a0 n0 os left W (RdO.below rr0 h) mm0 tt0 hb)
  clear rr0 mm0 tt0
  obtain ⟨w0, hw0⟩ : ∃ w0, w0 = w.alloc (.cells #[.int .i64 s, .int .i64 t] 24) := ⟨_, rfl⟩
  have B0 : Below w.heap.size w w0 := by rw [hw0]; exact (Below.refl _ _).alloc (Nat.le_refl _) _
  have s0 : w0.heap.size = w.heap.size + 1 := by rw [hw0]; simp
  have c0 : w0.cell? ⟨w.heap.size, 0, none⟩ = some (.int .i64 s) := by rw [hw0]; simp [go_sem]
  have c1 : w0.cell? ⟨w.heap.size, 1, none⟩ = some (.int .i64 t) := by rw [hw0]; simp [go_sem]
  have HX0 := Lib.hid (fun W (hW : Below w0.heap.size w0 W) => (⟨(hW.cell (p := ⟨w.heap.size, 0, none⟩) (by show w.heap.size < _; omega)).trans c0, (hW.cell (p := ⟨w.heap.size, 1, none⟩) (by show w.heap.size < _; omega)).trans c1⟩ : W.cell? ⟨w.heap.size, 0, none⟩ = some (.int .i64 s) ∧ W.cell? ⟨w.heap.size, 1, none⟩ = some (.int .i64 t)))
  have HB0 := Lib.hid B0
  have HW0 := Lib.hid hw0
  clear B0 s0 c0 c1 hw0
  go_enter Try.func3, Try.ntmps3
  go_wp2_with fail
  rw [← HW0.out]
  refine (HZ0.out _ _ HB0.out (by omega)).mono ?_
  rintro e w1 ⟨hzz0, bel1⟩
  have HB1 := Lib.hid (HB0.out.trans (bel1.mono HB0.out.size))
  have HXW := Lib.hid (fun W (h : Below w1.heap.size w1 W) => HX0.out W (bel1.trans (h.mono bel1.size)))
  clear bel1
  rcases hzz0 with rfl | ⟨left0, hl0_0, hl1_0, hl2_0, rfl⟩
  · go_wp2
    go_ret
    exact ⟨rfl, HB1.out⟩
  have hl0 : os.length ≤ 1048576 := by omega
  have hspec := fun a c W h => spec_MakeUndo a c os s t en W h hl0 HT0.out
  have himpl := fun a c W h => impl_MakeUndo a c os s t en W h hl0 HT0.out
  obtain ⟨R, hR⟩ : ∃ R, R = muOp os s t en := ⟨_, rfl⟩
  obtain ⟨T, hT⟩ : ∃ T, T = muT os s t := ⟨_, rfl⟩
  rw [← hR, ← hT] at hspec himpl
  have HS := Lib.hid hspec
  have HI := Lib.hid himpl
  clear hspec himpl hR hT HZ0
  have HBc := Lib.hid (Below.refl w1.heap.size w1).drew
  obtain ⟨x0, x1⟩ := HXW.out w1.drew HBc.out
  obtain ⟨xa0, xa1⟩ := HXW.out (w1.drew.alloc (.cells #[.int .i64 0, .int .i64 0, .int .i64 0, .int .i64 0, .int .i64 0, .int .i64 0, .int .i64 0, .int .i64 0, .int .i64 0, .int .i64 0, .bool false, .string ⟨#[]⟩] 28)) (HBc.out.alloc (Nat.le_refl _) _)
  have xb0 : (w1.alloc (.cells #[.int .i64 0, .int .i64 0, .int .i64 0, .int .i64 0, .int .i64 0, .int .i64 0, .int .i64 0, .int .i64 0, .int .i64 0, .int .i64 0, .bool false, .string ⟨#[]⟩] 28)).drew.cell? ⟨w.heap.size, 0, none⟩ = some (.int .i64 s) := xa0
  have xb1 : (w1.alloc (.cells #[.int .i64 0, .int .i64 0, .int .i64 0, .int .i64 0, .int .i64 0, .int .i64 0, .int .i64 0, .int .i64 0, .int .i64 0, .int .i64 0, .bool false, .string ⟨#[]⟩] 28)).drew.cell? ⟨w.heap.size, 1, none⟩ = some (.int .i64 t) := xa1
  have m0 := World.new_ne w1.drew _ x0
  have HO := Lib.hid (fun W (h : Below w1.heap.size w1 W) => toOpS a0 n0 os W (RdO.below HR0.out (HB1.out.trans (h.mono HB1.out.size))) hl0)
  go_upto_region 5 with (fail)
  go_cut [8, 9] (fun sb tb wx => ∃ nb, sb = .pointer (some ⟨nb, 0, none⟩) ∧ tb = .bool T ∧ w1.heap.size ≤ nb ∧ nb < wx.heap.size ∧ C12 wx nb 0 R ∧ Below w1.heap.size w1 wx)
  case first =>
    go_region_with (first
            | (go_at_call 7
               refine (HO.out _ ?_).mono ?_
               · first | exact HBc.out | exact HBc.out.alloc HBc.out.size _
               rintro e w3 ⟨b_sp, rfl, hb_sp, own_sp, b3⟩
               have hrow := newRowO hb_sp own_sp
               clear own_sp hb_sp
               have hbn : Below w1.heap.size w1 w3 := by
                 first
                 | exact HBc.out.trans (b3.mono HBc.out.size)
                 | exact (HBc.out.alloc HBc.out.size (.cells #[.int .i64 0, .int .i64 0, .int .i64 0, .int .i64 0, .int .i64 0, .int .i64 0, .int .i64 0, .int .i64 0, .int .i64 0, .int .i64 0, .bool false, .string ⟨#[]⟩] 28)).trans (b3.mono (Nat.le_trans HBc.out.size (le_alloc _ _)))
               (try (have bk := OwnO.below HKb.out b3; clear HKb; have HKb := Lib.hid bk; clear bk))
               (first
                 | (have bk : Box w3 w1.heap.size zop := OwnO.below (box_new w1.drew zop) b3; have HKb := Lib.hid bk; have hnb := Nat.le_refl w1.heap.size; clear bk)
                 | (have bk := OwnO.below (box_new _ zop) b3; have HKb := Lib.hid bk; have hnb := HBc.out.size; clear bk)
                 | skip)
               skip
               clear HBc x0 x1 xa0 xa1
               have HBc := Lib.hid hbn
               clear hbn
               obtain ⟨x0, x1⟩ := HXW.out _ HBc.out
               obtain ⟨xa0, xa1⟩ := HXW.out (w3.alloc (.cells #[.int .i64 0, .int .i64 0, .int .i64 0, .int .i64 0, .int .i64 0, .int .i64 0, .int .i64 0, .int .i64 0, .int .i64 0, .int .i64 0, .bool false, .string ⟨#[]⟩] 28)) (HBc.out.alloc HBc.out.size _)
               have nw3 := World.new_ne w3 _ x0
               clear b3)
            | (go_at_call 8
               refine (toStamp _ _ _).mono ?_
               rintro e w4 ⟨rfl, b4⟩
               have hbn : Below w1.heap.size w1 w4 := by
                 first
                 | exact HBc.out.trans (b4.mono HBc.out.size)
                 | exact (HBc.out.alloc HBc.out.size (.cells #[.int .i64 0, .int .i64 0, .int .i64 0, .int .i64 0, .int .i64 0, .int .i64 0, .int .i64 0, .int .i64 0, .int .i64 0, .int .i64 0, .bool false, .string ⟨#[]⟩] 28)).trans (b4.mono (Nat.le_trans HBc.out.size (le_alloc _ _)))
               (try (have bk := OwnO.below HKb.out b4; clear HKb; have HKb := Lib.hid bk; clear bk))
               (first
                 | (have bk : Box w4 w1.heap.size zop := OwnO.below (box_new w1.drew zop) b4; have HKb := Lib.hid bk; have hnb := Nat.le_refl w1.heap.size; clear bk)
                 | (have bk := OwnO.below (box_new _ zop) b4; have HKb := Lib.hid bk; have hnb := HBc.out.size; clear bk)
                 | skip)
               (try (have hr2 := RowO.below hrow b4; clear hrow; have hrow := hr2; clear hr2))
               (try (have hr2 := RowO.below (hrow.below ((Below.refl _ _).alloc (Nat.le_refl _) (.cells #[.int .i64 0, .int .i64 0, .int .i64 0, .int .i64 0, .int .i64 0, .int .i64 0, .int .i64 0, .int .i64 0, .int .i64 0, .int .i64 0, .bool false, .string ⟨#[]⟩] 28))) b4; clear hrow; have hrow := hr2; clear hr2))
               clear HBc x0 x1 xa0 xa1
               have HBc := Lib.hid hbn
               clear hbn
               obtain ⟨x0, x1⟩ := HXW.out _ HBc.out
               obtain ⟨xa0, xa1⟩ := HXW.out (w4.alloc (.cells #[.int .i64 0, .int .i64 0, .int .i64 0, .int .i64 0, .int .i64 0, .int .i64 0, .int .i64 0, .int .i64 0, .int .i64 0, .int .i64 0, .bool false, .string ⟨#[]⟩] 28)) (HBc.out.alloc HBc.out.size _)
               have nw4 := World.new_ne w4 _ x0
               clear b4)
            | (go_at_call 6
               refine (HS.out _ _ _ ?_).mono ?_
               · first | exact hrow.rd | exact (hrow.below ((Below.refl _ _).alloc (Nat.le_refl _) _)).rd
               rintro e w5 ⟨rfl, b5⟩
               have hbn : Below w1.heap.size w1 w5 := by
                 first
                 | exact HBc.out.trans (b5.mono HBc.out.size)
                 | exact (HBc.out.alloc HBc.out.size (.cells #[.int .i64 0, .int .i64 0, .int .i64 0, .int .i64 0, .int .i64 0, .int .i64 0, .int .i64 0, .int .i64 0, .int .i64 0, .int .i64 0, .bool false, .string ⟨#[]⟩] 28)).trans (b5.mono (Nat.le_trans HBc.out.size (le_alloc _ _)))
               (try (have bk := OwnO.below HKb.out b5; clear HKb; have HKb := Lib.hid bk; clear bk))
               (first
                 | (have bk : Box w5 w1.heap.size zop := OwnO.below (box_new w1.drew zop) b5; have HKb := Lib.hid bk; have hnb := Nat.le_refl w1.heap.size; clear bk)
                 | (have bk := OwnO.below (box_new _ zop) b5; have HKb := Lib.hid bk; have hnb := HBc.out.size; clear bk)
                 | skip)
               skip
               clear HBc x0 x1 xa0 xa1
               have HBc := Lib.hid hbn
               clear hbn
               obtain ⟨x0, x1⟩ := HXW.out _ HBc.out
               obtain ⟨xa0, xa1⟩ := HXW.out (w5.alloc (.cells #[.int .i64 0, .int .i64 0, .int .i64 0, .int .i64 0, .int .i64 0, .int .i64 0, .int .i64 0, .int .i64 0, .int .i64 0, .int .i64 0, .bool false, .string ⟨#[]⟩] 28)) (HBc.out.alloc HBc.out.size _)
               have nw5 := World.new_ne w5 _ x0
               (try (obtain ⟨z0, z1, z2, z3, z4, z5, z6, z7, z8, z9, z10, z11⟩ := c12 (Box.range HKb.out); have fz0 := OwnO.frozen HKb.out 0; have fz1 := OwnO.frozen HKb.out 1; have fz2 := OwnO.frozen HKb.out 2; have fz3 := OwnO.frozen HKb.out 3; have fz4 := OwnO.frozen HKb.out 4; have fz5 := OwnO.frozen HKb.out 5; have fz6 := OwnO.frozen HKb.out 6; have fz7 := OwnO.frozen HKb.out 7; have fz8 := OwnO.frozen HKb.out 8; have fz9 := OwnO.frozen HKb.out 9; have fz10 := OwnO.frozen HKb.out 10; have fz11 := OwnO.frozen HKb.out 11))
               clear b5))
    all_goals
      go_wp2_with fail
      go_meet
      first
        | exact ⟨_, rfl, rfl, HBc.out.size, by simp, c12 (Box.range (box_new w5 R)), HBc.out.alloc HBc.out.size _⟩
        | exact ⟨_, rfl, rfl, hnb, by simp; exact Box.lt HKb.out, set12 HKb.out R, below_setCells hnb (opL R) 0 _ HBc.out⟩
  case rest =>
    obtain ⟨nb, rfl, rfl, hnb, lnb, cN, hbc⟩ := hcut
    clear x0 x1 xa0 xa1 xb0 xb1 m0
    have HC := Lib.hid hbc
    have HN := Lib.hid cN
    clear cN
    go_wp2_with fail
    refine (HO.out _ HC.out).mono ?_
    rintro e w6 ⟨b_x0, rfl, hb_x0, own_x0, b6⟩
    have hrow6 := newRowO hb_x0 own_x0
    clear own_x0 hb_x0
    have HB6 := Lib.hid (HC.out.trans (b6.mono HC.out.size))
    have HN6 := Lib.hid (c12k HN.out b6 lnb)
    have lnb6 : nb < w6.heap.size := Nat.lt_of_lt_of_le lnb b6.size
    obtain ⟨x0, x1⟩ := HXW.out _ HB6.out
    clear b6
    go_wp2_with fail
    refine (toStamp _ _ _).mono ?_
    rintro e w7 ⟨rfl, b7⟩
    clear x0 x1
    have hrow7 := hrow6.below b7
    have HB7 := Lib.hid (HB6.out.trans (b7.mono HB6.out.size))
    have HN7 := Lib.hid (c12k HN6.out b7 lnb6)
    have lnb7 : nb < w7.heap.size := Nat.lt_of_lt_of_le lnb6 b7.size
    clear b7 hrow6
    go_wp2_with fail
    refine (HI.out _ _ _ hrow7.rd).mono ?_
    rintro e w8 ⟨rfl, b8⟩
    have hrow8 := hrow7.below b8
    have HB8 := Lib.hid (HB7.out.trans (b8.mono HB7.out.size))
    have hn8 := c12k HN7.out b8 lnb7
    have lnb8 : nb < w8.heap.size := Nat.lt_of_lt_of_le lnb7 b8.size
    have ha8 : Below w8.heap.size w8 (w8.alloc (.cells #[.int .i64 R.i, .int .i64 R.j, .int .i64 R.k, .int .i64 R.ts, .int .i64 R.ta, .int .i64 R.fs, .int .i64 R.fa, .int .i64 R.ns, .int .i64 R.na, .int .i64 R.v, .bool R.en, .string R.tx] 28)) := (Below.refl _ _).alloc (Nat.le_refl _) _
    obtain ⟨n0', n1, n2, n3, n4, n5, n6, n7, n8, n9, n10, n11⟩ := c12k hn8 ha8 lnb8
    have HB9 := Lib.hid (HB8.out.trans (ha8.mono HB8.out.size))
    have hrow9 := hrow8.below ha8
    clear b8 hrow7 hrow8 hn8 ha8
    go_wp2_with fail
    refine (eqOp_refl R _).mono ?_
    rintro e w10 ⟨rfl, b10⟩
    have HB10 := Lib.hid (HB9.out.trans (b10.mono HB9.out.size))
    have hrow10 := hrow9.below b10
    clear n0' n1 n2 n3 n4 n5 n6 n7 n8 n9 n10 n11 b10 hrow9
    go_wp2_with fail
    refine (HO.out _ HB10.out).mono ?_
    rintro e w11 ⟨b_y0, rfl, hb_y0, own_y0, b11⟩
    have hrow11 := hrow10.below b11
    have hrowy := newRowO hb_y0 own_y0
    have HB11 := Lib.hid (HB10.out.trans (b11.mono HB10.out.size))
    clear own_y0 hb_y0 b11 hrow10
    go_wp2_with fail
    refine (eqOpS _ _ _ _ os _ hrow11.rd hrowy.rd hl0).mono ?_
    rintro e w12 ⟨rfl, b12⟩
    have HB12 := Lib.hid (HB1.out.trans ((HB11.out.trans (b12.mono HB11.out.size)).mono HB1.out.size))
    go_wp2
    go_ret
    exact ⟨rfl, HB12.out⟩

end Go.Proofs.Ytdiifcgalehhbaa.MuD
