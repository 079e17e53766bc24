/-
  Contracts of VectorLessEqual in both packages, and the walk of the law FnExactVectorLessEqual. For every argument; no condition.
-/
import Derived.Test.YtmjpblgnlbjejaaVecC
import Derived.ChangeKeysEq
namespace Go.Proofs.Ytmjpblgnlbjejaa.VecD
open Go.RowKit Go.Proofs.Ytmjpblgnlbjejaa.Base Go.Proofs.Ytmjpblgnlbjejaa.St Go.Proofs.Ytmjpblgnlbjejaa.Vec Go.Proofs.Ytmjpblgnlbjejaa.Row Go.Proofs.Ytmjpblgnlbjejaa.VecA Go.Proofs.Ytmjpblgnlbjejaa.VecC

def le3 (x0 x1 x2 y0 y1 y2 : Int) : Bool := decide (x0 ≤ y0) && (decide (x1 ≤ y1) && decide (x2 ≤ y2))
def vle (xs ys : List Int) : Bool := vv xs && (vv ys && le3 (ent xs 0) (ent xs 1) (ent xs 2) (ent ys 0) (ent ys 1) (ent ys 2))
theorem three {zs : List Int} (h : vv zs = true) : ∃ x y z, zs = [x, y, z] := by
  have h3 : zs.length = 3 := by simp [vv] at h; exact h.2
  match zs, h3 with
  | [x, y, z], _ => exact ⟨x, y, z, rfl⟩
theorem Rd.three {w : World} {a : Option Addr} {x y z : Int} (h : Rd w a [x, y, z]) : ∃ b off, a = some ⟨b, off, none⟩ ∧ w.cell? ⟨b, off, none⟩ = some (.int .i64 x) ∧ w.cell? ⟨b, off + 1, none⟩ = some (.int .i64 y) ∧ w.cell? ⟨b, off + 2, none⟩ = some (.int .i64 z) := by
  rcases h with h | ⟨b, off, ha, hc⟩
  · cases h
  · exact ⟨b, off, ha, hc 0 (by simp), hc 1 (by simp), hc 2 (by simp)⟩

set_option maxHeartbeats 1000000 in
theorem spec_VectorLessEqual (a a' : Option Addr) (c c' : Nat) (xs ys : List Int) (w : World) (hx : Rd w a xs) (hy : Rd w a' ys) (hl : xs.length ≤ 1048576) (hl' : ys.length ≤ 1048576) :
    Calls Try.prog 31 #[.slice a xs.length c, .slice a' ys.length c'] w fun e w' => e = .returned (.bool (vle xs ys)) ∧ Below w.heap.size w w' := by
  cases hv : vv xs
  · have hr : vle xs ys = false := by simp [vle, hv]
    rw [hr]
    clear hr
    go_enter Try.func31, Try.ntmps31
    go_wp2_with (go_at_call 47; refine (spec_validVector _ _ xs _ hx hl).mono ?_; rintro e w' ⟨rfl, rfl⟩)
    go_ret
    exact ⟨rfl, Below.refl _ _⟩
  · cases hv' : vv ys
    · have hr : vle xs ys = false := by simp [vle, hv']
      rw [hr]
      clear hr
      go_enter Try.func31, Try.ntmps31
      go_wp2_with fail
      refine (spec_validVector _ _ xs _ hx hl).mono ?_
      rintro e w' ⟨rfl, rfl⟩
      go_wp2_with fail
      refine (spec_validVector _ _ ys _ hy hl').mono ?_
      rintro e w' ⟨rfl, rfl⟩
      go_wp2
      go_ret
      exact ⟨rfl, Below.refl _ _⟩
    · obtain ⟨x0, x1, x2, rfl⟩ := three hv
      obtain ⟨y0, y1, y2, rfl⟩ := three hv'
      have hr : vle [x0, x1, x2] [y0, y1, y2] = le3 x0 x1 x2 y0 y1 y2 := by simp [vle, hv, hv', ent]
      rw [hr]
      clear hr
      have hvx := fun w h => spec_validVector a c [x0, x1, x2] w h hl
      have hvy := fun w h => spec_validVector a' c' [y0, y1, y2] w h hl'
      rw [hv] at hvx
      rw [hv'] at hvy
      clear hv hv' hl hl'
      have Hx := Lib.hid hx
      have Hy := Lib.hid hy
      obtain ⟨b, off, rfl, p0, p1, p2⟩ := Rd.three hx
      obtain ⟨b', off', rfl, q0, q1, q2⟩ := Rd.three hy
      have Hvx := Lib.hid hvx
      have Hvy := Lib.hid hvy
      clear hx hy hvx hvy
      by_cases h0 : x0 ≤ y0
      · by_cases h1 : x1 ≤ y1
        · by_cases h2 : x2 ≤ y2
          · have hr : le3 x0 x1 x2 y0 y1 y2 = true := by simp [le3, h0, h1, h2]
            rw [hr]
            clear hr
            go_enter Try.func31, Try.ntmps31
            go_wp2_with fail
            refine (Hvx.out _ Hx.out).mono ?_
            rintro e w' ⟨rfl, rfl⟩
            go_wp2_with fail
            refine (Hvy.out _ Hy.out).mono ?_
            rintro e w' ⟨rfl, rfl⟩
            go_wp2
            refine wp_loop_rounds 4 ?_
            rw [rounds_succ]
            go_wp2
            go_quiet (fail)
            go_wp2
            rw [rounds_succ]
            go_wp2
            go_quiet (fail)
            go_wp2
            rw [rounds_succ]
            go_wp2
            go_quiet (fail)
            go_wp2
            rw [rounds_succ]
            go_wp2
            go_ret
            exact ⟨rfl, by repeat (first | exact Below.refl _ _ | refine belowN ?_ _)⟩
          · have hr : le3 x0 x1 x2 y0 y1 y2 = false := by simp [le3, h2]
            rw [hr]
            clear hr
            go_enter Try.func31, Try.ntmps31
            go_wp2_with fail
            refine (Hvx.out _ Hx.out).mono ?_
            rintro e w' ⟨rfl, rfl⟩
            go_wp2_with fail
            refine (Hvy.out _ Hy.out).mono ?_
            rintro e w' ⟨rfl, rfl⟩
            go_wp2
            refine wp_loop_rounds 4 ?_
            rw [rounds_succ]
            go_wp2
            go_quiet (fail)
            go_wp2
            rw [rounds_succ]
            go_wp2
            go_quiet (fail)
            go_wp2
            rw [rounds_succ]
            go_wp2
            go_quiet (fail)
            go_wp2
            go_ret
            exact ⟨rfl, by repeat (first | exact Below.refl _ _ | refine belowN ?_ _)⟩
        · have hr : le3 x0 x1 x2 y0 y1 y2 = false := by simp [le3, h1]
          rw [hr]
          clear hr
          go_enter Try.func31, Try.ntmps31
          go_wp2_with fail
          refine (Hvx.out _ Hx.out).mono ?_
          rintro e w' ⟨rfl, rfl⟩
          go_wp2_with fail
          refine (Hvy.out _ Hy.out).mono ?_
          rintro e w' ⟨rfl, rfl⟩
          go_wp2
          refine wp_loop_rounds 4 ?_
          rw [rounds_succ]
          go_wp2
          go_quiet (fail)
          go_wp2
          rw [rounds_succ]
          go_wp2
          go_quiet (fail)
          go_wp2
          go_ret
          exact ⟨rfl, by repeat (first | exact Below.refl _ _ | refine belowN ?_ _)⟩
      · have hr : le3 x0 x1 x2 y0 y1 y2 = false := by simp [le3, h0]
        rw [hr]
        clear hr
        go_enter Try.func31, Try.ntmps31
        go_wp2_with fail
        refine (Hvx.out _ Hx.out).mono ?_
        rintro e w' ⟨rfl, rfl⟩
        go_wp2_with fail
        refine (Hvy.out _ Hy.out).mono ?_
        rintro e w' ⟨rfl, rfl⟩
        go_wp2
        refine wp_loop_rounds 4 ?_
        rw [rounds_succ]
        go_wp2
        go_quiet (fail)
        go_wp2
        go_ret
        exact ⟨rfl, by repeat (first | exact Below.refl _ _ | refine belowN ?_ _)⟩

theorem le3_upper (x0 x1 x2 y0 y1 y2 : Int) : (#[Value.int .i64 (mx x0 y0), Value.int .i64 (mx x1 y1), Value.int .i64 (mx x2 y2)] = #[Value.int .i64 y0, Value.int .i64 y1, Value.int .i64 y2]) ↔ le3 x0 x1 x2 y0 y1 y2 = true := by
  have e : ∀ x y : Int, mx x y = y ↔ x ≤ y := fun x y => by unfold mx; by_cases h : x < y <;> simp [h] <;> omega
  simp [le3, e]

theorem cells_int : Try.prog.cellsOf 3 = 1 := by kernel_rfl
theorem vecEq (m0 m1 m2 y0 y1 y2 : Int) (w : World) :
    (Op.equalIn 10000 59 (.agg #[.int .i64 m0, .int .i64 m1, .int .i64 m2]) (.agg #[.int .i64 y0, .int .i64 y1, .int .i64 y2])).run Try.prog w = .ok ((m0 == y0) && ((m1 == y1) && (m2 == y2))) w := by
  obtain ⟨i0, hi, _, _, _⟩ := info_parts info_int
  rw [run_equalIn_array w 9999 _ _ Try.underlying59 hi]
  rw [cells_int]
  simp [List.range_succ, Op.eqItems, go_sem, part]
  by_cases h0 : m0 = y0 <;> by_cases h1 : m1 = y1 <;> by_cases h2 : m2 = y2 <;> simp [h0, h1, h2]

/-- Two boxes of three cells stand in a world behind a call that made memory only; so does what lay below n. -/
theorem keepThrees {n b d : Nat} {x0 x1 x2 y0 y1 y2 : Value} {w0 W w2 : World}
    (h : Below n w0 W ∧ n ≤ W.heap.size ∧ b < W.heap.size ∧ d < W.heap.size ∧ W.cell? ⟨b, 0, none⟩ = some x0 ∧ W.cell? ⟨b, 1, none⟩ = some x1 ∧ W.cell? ⟨b, 2, none⟩ = some x2 ∧
      W.cell? ⟨d, 0, none⟩ = some y0 ∧ W.cell? ⟨d, 1, none⟩ = some y1 ∧ W.cell? ⟨d, 2, none⟩ = some y2) (hb : Below W.heap.size W w2) :
    Below n w0 w2 ∧ n ≤ w2.heap.size ∧ b < w2.heap.size ∧ d < w2.heap.size ∧ w2.cell? ⟨b, 0, none⟩ = some x0 ∧ w2.cell? ⟨b, 1, none⟩ = some x1 ∧ w2.cell? ⟨b, 2, none⟩ = some x2 ∧
      w2.cell? ⟨d, 0, none⟩ = some y0 ∧ w2.cell? ⟨d, 1, none⟩ = some y1 ∧ w2.cell? ⟨d, 2, none⟩ = some y2 := by
  obtain ⟨h0, hn, hz, hz', h1, h2, h3, h4, h5, h6⟩ := h
  have := hb.size
  exact ⟨h0.trans (hb.mono (by omega)), by omega, by omega, by omega, (hb.cell (by show b < _; omega)).trans h1, (hb.cell (by show b < _; omega)).trans h2, (hb.cell (by show b < _; omega)).trans h3,
    (hb.cell (by show d < _; omega)).trans h4, (hb.cell (by show d < _; omega)).trans h5, (hb.cell (by show d < _; omega)).trans h6⟩

theorem impl_VectorLessEqual (a a' : Option Addr) (c c' : Nat) (xs ys : List Int) (w : World) (hx : Rd w a xs) (hy : Rd w a' ys) (hl : xs.length ≤ 1048576) (hl' : ys.length ≤ 1048576) :
    Calls Try.prog 32 #[.slice a xs.length c, .slice a' ys.length c'] w fun e w' => e = .returned (.bool (vle xs ys)) ∧ Below w.heap.size w w' := by
  have hcx := fun w h => vectorOf a c xs w h hl
  have hcy := fun w h => vectorOf a' c' ys w h hl'
  have hr : vle xs ys = (vv xs && (vv ys && le3 (ent xs 0) (ent xs 1) (ent xs 2) (ent ys 0) (ent ys 1) (ent ys 2))) := rfl
  rw [hr]
  generalize ent xs 0 = x0, ent xs 1 = x1, ent xs 2 = x2, ent ys 0 = y0, ent ys 1 = y1, ent ys 2 = y2, vv xs = u, vv ys = v at hcx hcy ⊢
  have Hcx := Lib.hid hcx
  have Hcy := Lib.hid hcy
  clear hcx hcy hr hl hl'
  cases u
  · go_enter Try.func32, Try.ntmps32
    go_wp2_with fail
    refine (Hcx.out _ hx).mono ?_
    rintro e w1 ⟨rfl, hb1⟩
    have hz1 := hb1.size
    go_wp2_with fail
    refine (Hcy.out _ (Rd.below hy (hb1.alloc (by omega) _))).mono ?_
    rintro e w2 ⟨rfl, hb2⟩
    have hz2 : w1.heap.size < w2.heap.size := by have := hb2.size; simp at this; omega
    go_wp2_with fail
    go_quiet (fail)
    go_wp2
    go_ret
    exact ⟨rfl, belowN (((hb1.alloc (by omega) _).trans (hb2.mono (by simp; omega))).alloc (by omega) _) _⟩
  · cases v
    · go_enter Try.func32, Try.ntmps32
      go_wp2_with fail
      refine (Hcx.out _ hx).mono ?_
      rintro e w1 ⟨rfl, hb1⟩
      have hz1 := hb1.size
      go_wp2_with fail
      refine (Hcy.out _ (Rd.below hy (hb1.alloc (by omega) _))).mono ?_
      rintro e w2 ⟨rfl, hb2⟩
      have hz2 : w1.heap.size < w2.heap.size := by have := hb2.size; simp at this; omega
      go_wp2_with fail
      go_quiet (fail)
      go_wp2
      go_ret
      exact ⟨rfl, belowN (((hb1.alloc (by omega) _).trans (hb2.mono (by simp; omega))).alloc (by omega) _) _⟩
    · have hu := upper x0 x1 x2 y0 y1 y2
      generalize hm0 : mx x0 y0 = m0, hm1 : mx x1 y1 = m1, hm2 : mx x2 y2 = m2 at hu
      have HM : Hid (((m0 == y0) && ((m1 == y1) && (m2 == y2))) = le3 x0 x1 x2 y0 y1 y2) := by
        rw [← hm0, ← hm1, ← hm2]
        have e : ∀ x y : Int, (mx x y == y) = decide (x ≤ y) := fun x y => by unfold mx; rw [Bool.eq_iff_iff]; by_cases h : x < y <;> simp [h] <;> omega
        simp only [Hid, e, le3]
      have HU := Lib.hid hu
      clear hu hm0 hm1 hm2
      have hq := vecEq m0 m1 m2 y0 y1 y2
      go_enter Try.func32, Try.ntmps32
      go_wp2_with fail
      refine (Hcx.out _ hx).mono ?_
      rintro e w1 ⟨rfl, hb1⟩
      have hz1 := hb1.size
      go_wp2_with fail
      refine (Hcy.out _ (Rd.below hy (hb1.alloc (by omega) _))).mono ?_
      rintro e w2 ⟨rfl, hb2⟩
      obtain ⟨hc2, hf2⟩ := oldCells hb2
      have hz2 : w1.heap.size < w2.heap.size := by have := hb2.size; simp at this; omega
      go_wp2_with fail
      go_region_held3 (fun w' => Below w.heap.size w w' ∧ w.heap.size ≤ w'.heap.size ∧ w1.heap.size < w'.heap.size ∧ w2.heap.size < w'.heap.size ∧ w'.cell? ⟨w1.heap.size, 0, none⟩ = some (.int .i64 x0) ∧ w'.cell? ⟨w1.heap.size, 1, none⟩ = some (.int .i64 x1) ∧ w'.cell? ⟨w1.heap.size, 2, none⟩ = some (.int .i64 x2) ∧
          w'.cell? ⟨w2.heap.size, 0, none⟩ = some (.int .i64 y0) ∧ w'.cell? ⟨w2.heap.size, 1, none⟩ = some (.int .i64 y1) ∧ w'.cell? ⟨w2.heap.size, 2, none⟩ = some (.int .i64 y2))
        (first | (refine ⟨(((hb1.alloc (by omega) _).trans (hb2.mono (by simp; omega))).alloc (by omega) _).drew, by simp [World.drew]; omega, by simp [World.drew]; omega, by simp [World.drew], ?_⟩; go_simp; done) | exact keepThrees (by assumption) hb3)
        (first
          | (go_at_call 52; refine (HU.out _).mono ?_; rintro e w3 ⟨rfl, hb3⟩))
      go_wp2
      go_ret
      exact ⟨ret_bool HM.out, And.left (by assumption)⟩

theorem walkVectorLessEqual (a0 : Option Addr) (len0 cap0 : Nat) (z0 : List Int) (a1 : Option Addr) (len1 cap1 : Nat) (z1 : List Int) (w : World) (h0 : IsRow .i64 w a0 len0 cap0 z0) (h1 : IsRow .i64 w a1 len1 cap1 z1) :
    Calls Try.prog 10 #[.slice a0 len0 cap0, .slice a1 len1 cap1] w fun e w' => e = .returned (.bool true) ∧ Below w.heap.size w w' := by
  obtain ⟨xs, rfl, hr⟩ := isRow_rd h0
  obtain ⟨ys, rfl, hs⟩ := isRow_rd h1
  clear h0 h1
  by_cases hl : xs.length ≤ 1048576
  · by_cases hl' : ys.length ≤ 1048576
    · go_enter Try.func10, Try.ntmps10
      go_wp2_with fail
      refine (toIntS _ _ xs _ hr hl).mono ?_
      rintro e w1 ⟨b1, rfl, hb1, hown1, bel1⟩
      have hz1 := bel1.size
      go_wp2_with fail
      refine (toIntS _ _ ys _ (Rd.below hs bel1) hl').mono ?_
      rintro e w2 ⟨b2, rfl, hb2, hown2, bel2⟩
      have hz2 := bel2.size
      have bel02 := bel1.trans (bel2.mono hz1)
      go_wp2_with fail
      refine (spec_VectorLessEqual _ _ _ _ xs ys _ (hown1.below bel2).rd hown2.rd hl hl').mono ?_
      rintro e w3 ⟨rfl, bel3⟩
      have hz3 := bel3.size
      have bel03 := bel02.trans (bel3.mono (by omega))
      clear hown1 hown2
      go_wp2_with fail
      refine (toIntS _ _ xs _ (Rd.below hr bel03) hl).mono ?_
      rintro e w4 ⟨b4, rfl, hb4, hown4, bel4⟩
      have hz4 := bel4.size
      have bel04 := bel03.trans (bel4.mono (by omega))
      go_wp2_with fail
      refine (toIntS _ _ ys _ (Rd.below hs bel04) hl').mono ?_
      rintro e w5 ⟨b5, rfl, hb5, hown5, bel5⟩
      have hz5 := bel5.size
      have bel05 := bel04.trans (bel5.mono (by omega))
      have hown4' := hown4.below bel5
      go_wp2_with fail
      refine (impl_VectorLessEqual _ _ _ _ xs ys _ hown4'.rd hown5.rd hl hl').mono ?_
      rintro e w6 ⟨rfl, bel6⟩
      have hz6 := bel6.size
      have bel06 := bel05.trans (bel6.mono (by omega))
      have hx6 := hown4'.below bel6
      have hy6 := hown5.below bel6
      clear hown4 hown4' hown5
      go_wp2_with fail
      refine (toIntS _ _ xs _ (Rd.below hr bel06) hl).mono ?_
      rintro e w7 ⟨b7, rfl, hb7, hown7, bel7⟩
      have hz7 := bel7.size
      have bel07 := bel06.trans (bel7.mono (by omega))
      have hx7 := hx6.below bel7
      have hy7 := hy6.below bel7
      go_wp2_with fail
      refine (eqIntS _ _ _ _ xs xs _ hx7.rd hown7.rd hl hl).mono ?_
      rintro e w8 ⟨rfl, bel8⟩
      have hz8 := bel8.size
      have bel08 := bel07.trans (bel8.mono (by omega))
      have hy8 := hy7.below bel8
      go_wp2_with fail
      refine (toIntS _ _ ys _ (Rd.below hs bel08) hl').mono ?_
      rintro e w9 ⟨b9, rfl, hb9, hown9, bel9⟩
      have hz9 := bel9.size
      have bel09 := bel08.trans (bel9.mono (by omega))
      have hy9 := hy8.below bel9
      go_wp2_with fail
      refine (eqIntS _ _ _ _ ys ys _ hy9.rd hown9.rd hl' hl').mono ?_
      rintro e w10 ⟨rfl, bel10⟩
      go_wp2
      go_ret
      exact ⟨rfl, bel09.trans (bel10.mono (by omega))⟩
    · have hl0 : (xs.length : Int) ≤ 1048576 := by omega
      have hl'' : (1048576 : Int) < (ys.length : Int) := by omega
      go_enter Try.func10, Try.ntmps10
      go_wp2
      go_ret
      exact ⟨rfl, Below.refl _ _⟩
  · have hl'' : (1048576 : Int) < (xs.length : Int) := by omega
    go_enter Try.func10, Try.ntmps10
    go_wp2
    go_ret
    exact ⟨rfl, Below.refl _ _⟩

end Go.Proofs.Ytmjpblgnlbjejaa.VecD
