/-
  slices.Clone of three integers, entries of a vector, VectorMax and VectorMin of both packages: each gives the slice of the greater (smaller) entries in new memory, or nil. For slices of at most 2^20 numbers.
-/
import Derived.Test.YtkkeaimoplkliaaRowB
import Derived.Test.YtkkeaimoplkliaaVecD
namespace Go.Proofs.Ytkkeaimoplkliaa.RowC
open Go.RowKit Go.Proofs.Ytkkeaimoplkliaa.Base Go.Proofs.Ytkkeaimoplkliaa.St Go.Proofs.Ytkkeaimoplkliaa.Vec Go.Proofs.Ytkkeaimoplkliaa.Row Go.Proofs.Ytkkeaimoplkliaa.RowB Go.Proofs.Ytkkeaimoplkliaa.VecC Go.Proofs.Ytkkeaimoplkliaa.VecD

theorem ownsEmpty (w : World) : (w.alloc (.cells #[] 3)).ownsRow w.heap.size 3 1 (.slice (some ⟨w.heap.size, 0, none⟩) 0 0) 0 [] :=
  World.ownsRow_lit w #[] 0 (Nat.le_refl _) (by simp [maxLen]) (by simp)

theorem cells3 {w w' : World} {b off : Nat} {x y z : Int} (hb : Below w.heap.size w w') (lb : b < w.heap.size) (h0 : w.cell? ⟨b, off, none⟩ = some (.int .i64 x)) (h1 : w.cell? ⟨b, off + 1, none⟩ = some (.int .i64 y)) (h2 : w.cell? ⟨b, off + 2, none⟩ = some (.int .i64 z)) :
    ∀ j u, ([x, y, z].map (Value.int .i64))[j]? = some u → w'.cell? ((⟨b, off, none⟩ : Addr).add j) = some u := by
  intro j u hj
  have e : ((⟨b, off, none⟩ : Addr).add j) = ⟨b, off + j, none⟩ := by unfold Addr.add; by_cases j0 : j = 0 <;> simp [j0]
  rw [e, hb.cell (by exact lb)]
  match j, hj with
  | 0, hj => simpa using h0.trans (by simpa using hj)
  | 1, hj => simpa using h1.trans (by simpa using hj)
  | 2, hj => simpa using h2.trans (by simpa using hj)
  | j + 3, hj => simp at hj

theorem clone3 (b off c : Nat) (x y z : Int) (w : World) (h0 : w.cell? ⟨b, off, none⟩ = some (.int .i64 x)) (h1 : w.cell? ⟨b, off + 1, none⟩ = some (.int .i64 y)) (h2 : w.cell? ⟨b, off + 2, none⟩ = some (.int .i64 z)) :
    Calls Try.prog 94 #[.slice (some ⟨b, off, none⟩) 3 c] w (Gives w [x, y, z]) := by
  obtain ⟨i0, hi, hz0, hz1, hz2⟩ := info_parts info_int
  have lb : b < w.heap.size := World.block_lt_of_cell? w _ h0
  have hnil : ∀ w : World, (binOp .eql 46 (.slice (some ⟨b, off, none⟩) 3 c) (.slice none 0 0)).run Try.prog w = .ok (.bool false) w := fun w => Lib.run_eql_slice_nil w _ _ _ _ _ _ _ Try.underlying46
  have hcs := cells3 ((Below.refl w.heap.size w).alloc (Nat.le_refl _) (.cells #[] 3)) lb h0 h1 h2
  have HCS := Lib.hid hcs
  have HOW := Lib.hid (ownsEmpty w)
  clear hcs h0 h1 h2
  go_enter Try.func94, Try.ntmps94
  go_wp2_with (at_builtin; refine wpList_append_own_at _ rfl (.tmp 5) (.tmp 6) 46 rfl w.heap.size 3 i0 (.int .i64 0) 1 8 Try.underlying46 hi hz0 hz1 hz2 rfl (by decide) _ 0 [] rfl HOW.out ⟨b, off, none⟩ 3 c ([x, y, z].map (Value.int .i64)) rfl rfl HCS.out (ints_oneCell _ _) (by decide) (by decide) (by simp) ?_; intro v' w1 hown1 hg1 hnil1 hat1)
  go_ret
  obtain ⟨a, c', rfl, hr⟩ := owned (zs := [x, y, z]) hown1
  refine ⟨a, c', rfl, hr, ((Below.refl w.heap.size w).alloc (Nat.le_refl _) _).grown hg1 (by simp) ?_⟩
  intro k hk
  obtain rfl : w.heap.size = k := Option.some.inj hk
  exact Nat.le_refl _

theorem entries (x y z : Int) (w : World) :
    Calls Try.prog 68 #[.agg #[.int .i64 x, .int .i64 y, .int .i64 z]] w (Gives w [x, y, z]) := by
  go_enter Try.func68, Try.ntmps68
  go_wp2_with fail
  refine (clone3 _ _ _ x y z _ (by go_simp) (by go_simp) (by go_simp)).mono ?_
  rintro e w1 ⟨a, c, rfl, hr, hb⟩
  go_wp2
  go_ret
  have hlo : RowF w.heap.size w1 a c [x, y, z].length (fun i => [x, y, z].getD i 0) := by
    rcases hr with h | ⟨b, ha, hl, h⟩
    · exact .inl h
    · exact .inr ⟨b, ha, by simp at hl; omega, h⟩
  exact ⟨a, c, rfl, hlo, ((Below.refl w.heap.size w).alloc (Nat.le_refl _) _).trans (hb.mono (by simp))⟩

/-- The list that VectorMax and VectorMin give. -/
def vmap (m : Int → Int → Int) (xs ys : List Int) : List Int := if vv xs && vv ys then [m (ent xs 0) (ent ys 0), m (ent xs 1) (ent ys 1), m (ent xs 2) (ent ys 2)] else []
theorem RowF.lower {lo lo' : Nat} {w : World} {a : Option Addr} {c n : Nat} {f : Nat → Int} (h : RowF lo w a c n f) (hl : lo' ≤ lo) : RowF lo' w a c n f := by
  rcases h with h | ⟨b, ha, hb, h⟩
  · exact .inl h
  · exact .inr ⟨b, ha, by omega, h⟩
theorem gives_nil (w : World) : Gives w [] (.returned (.slice none 0 0)) w := ⟨none, 0, rfl, .inl ⟨rfl, rfl⟩, Below.refl _ _⟩

theorem impl_VectorMax (a a' : Option Addr) (c c' : Nat) (xs ys : List Int) (w : World) (hx : Rd w a xs) (hy : Rd w a' ys) (hl : xs.length ≤ 1048576) (hl' : ys.length ≤ 1048576) :
    Calls Try.prog 52 #[.slice a xs.length c, .slice a' ys.length c'] w (Gives w (vmap mx xs ys)) := by
  have hcx := fun w h => vectorOf a c xs w h hl
  have hcy := fun w h => vectorOf a' c' ys w h hl'
  unfold vmap
  generalize ent xs 0 = x0, ent xs 1 = x1, ent xs 2 = x2, ent ys 0 = y0, ent ys 1 = y1, ent ys 2 = y2, vv xs = u, vv ys = v at hcx hcy ⊢
  have Hcx := Lib.hid hcx
  have Hcy := Lib.hid hcy
  clear hcx hcy hl hl'
  cases u
  · show Calls _ _ _ _ (Gives w [])
    go_enter Try.func52, Try.ntmps52
    go_wp2_with fail
    refine (Hcx.out _ hx).mono ?_
    rintro e w1 ⟨rfl, hb1⟩
    have hz1 := hb1.size
    go_wp2_with fail
    refine (Hcy.out _ (Rd.below hy (hb1.alloc (by omega) _))).mono ?_
    rintro e w2 ⟨rfl, hb2⟩
    have hz2 : w1.heap.size < w2.heap.size := by have := hb2.size; simp at this; omega
    go_wp2
    go_ret
    exact ⟨none, 0, rfl, .inl ⟨rfl, rfl⟩, ((hb1.alloc (by omega) _).trans (hb2.mono (by simp; omega))).alloc (by omega) _⟩
  · cases v
    · show Calls _ _ _ _ (Gives w [])
      go_enter Try.func52, Try.ntmps52
      go_wp2_with fail
      refine (Hcx.out _ hx).mono ?_
      rintro e w1 ⟨rfl, hb1⟩
      have hz1 := hb1.size
      go_wp2_with fail
      refine (Hcy.out _ (Rd.below hy (hb1.alloc (by omega) _))).mono ?_
      rintro e w2 ⟨rfl, hb2⟩
      have hz2 : w1.heap.size < w2.heap.size := by have := hb2.size; simp at this; omega
      go_wp2
      go_ret
      exact ⟨none, 0, rfl, .inl ⟨rfl, rfl⟩, ((hb1.alloc (by omega) _).trans (hb2.mono (by simp; omega))).alloc (by omega) _⟩
    · show Calls _ _ _ _ (Gives w [mx x0 y0, mx x1 y1, mx x2 y2])
      have hu := upper x0 x1 x2 y0 y1 y2
      generalize mx x0 y0 = m0, mx x1 y1 = m1, mx x2 y2 = m2 at hu ⊢
      have HU := Lib.hid hu
      clear hu
      go_enter Try.func52, Try.ntmps52
      go_wp2_with fail
      refine (Hcx.out _ hx).mono ?_
      rintro e w1 ⟨rfl, hb1⟩
      have hz1 := hb1.size
      go_wp2_with fail
      refine (Hcy.out _ (Rd.below hy (hb1.alloc (by omega) _))).mono ?_
      rintro e w2 ⟨rfl, hb2⟩
      obtain ⟨hc2, hf2⟩ := oldCells hb2
      have hz2 : w1.heap.size < w2.heap.size := by have := hb2.size; simp at this; omega
      have B2 := ((hb1.alloc (by omega) _).trans (hb2.mono (by simp; omega))).alloc (by omega) (.cells #[.int .i64 y0, .int .i64 y1, .int .i64 y2] 84)
      go_wp2_with fail
      refine (HU.out _).mono ?_
      rintro e w3 ⟨rfl, hb3⟩
      have hz3 : w2.heap.size < w3.heap.size := by have := hb3.size; simp at this; omega
      have B3 := B2.trans (hb3.mono (by simp; omega))
      clear hc2 hf2
      go_wp2_with fail
      refine (entries _ _ _ _).mono ?_
      rintro e w4 ⟨a4, c4, rfl, hr4, hb4⟩
      go_wp2
      go_ret
      exact ⟨a4, c4, rfl, RowF.lower hr4 (by omega), B3.trans (hb4.mono (by omega))⟩

theorem spec_vectorMax (a a' : Option Addr) (c c' : Nat) (x0 x1 x2 y0 y1 y2 : Int) (w : World) (hx : Rd w a [x0, x1, x2]) (hy : Rd w a' [y0, y1, y2]) :
    Calls Try.prog 82 #[.slice a 3 c, .slice a' 3 c'] w (Gives w [mx x0 y0, mx x1 y1, mx x2 y2]) := by
  obtain ⟨i0, hi, hz0, hz1, hz2⟩ := info_parts info_int
  obtain ⟨b, off, rfl, p0, p1, p2⟩ := Rd.three hx
  have lb : b < w.heap.size := World.block_lt_of_cell? w _ p0
  have hcs := cells3 ((Below.refl w.heap.size w).alloc (Nat.le_refl _) (.cells #[] 3)) lb p0 p1 p2
  have HCS := Lib.hid hcs
  have HOW := Lib.hid (ownsEmpty w)
  have HY := Lib.hid hy
  clear hcs p0 p1 p2 hx hy
  go_enter Try.func82, Try.ntmps82
  go_wp2_with (at_builtin; refine wpList_append_own_at _ rfl (.tmp 7) (.tmp 8) 46 rfl w.heap.size 3 i0 (.int .i64 0) 1 8 Try.underlying46 hi hz0 hz1 hz2 rfl (by decide) _ 0 [] rfl HOW.out ⟨b, off, none⟩ 3 c ([x0, x1, x2].map (Value.int .i64)) rfl rfl HCS.out (ints_oneCell _ _) (by decide) (by decide) (by simp) ?_; intro v' w1 hown1 hg1 hnil1 hat1; obtain ⟨a1, c1, hv1, hr1⟩ := owned (zs := [x0, x1, x2]) hown1; rcases hr1 with ⟨_, h3⟩ | ⟨g, ha1, hgl, hog⟩; (cases h3); subst ha1; subst hv1)
  have B1 : Below w.heap.size w w1 := ((Below.refl w.heap.size w).alloc (Nat.le_refl _) _).grown hg1 (by simp) (fun k hk => by obtain rfl : w.heap.size = k := Option.some.inj hk; exact Nat.le_refl _)
  obtain ⟨b', off', rfl, q0, q1, q2⟩ := Rd.three (Rd.below HY.out B1)
  have lb' : b' < w.heap.size := by
    rcases HY.out with h | ⟨b2, o2, h, hc⟩
    · cases h
    · have hlt2 : b2 < w.heap.size := World.block_lt_of_cell? w _ (hc 0 (by simp))
      injection h with h; injection h with h; omega
  have hyc : ∀ i, i < 3 → w1.cell? ⟨b', off' + i, none⟩ = some (.int .i64 ([y0, y1, y2].getD i 0)) := by
    intro i hi
    match i, hi with
    | 0, _ => exact q0
    | 1, _ => exact q1
    | 2, _ => exact q2
  have HYC := Lib.hid hyc
  clear hg1 hnil1 hat1 hown1 q0 q1 q2 hyc HOW HCS
  go_wp2
  go_loopw [6] (fun i wr => ∃ k : Nat, k ≤ 3 ∧ i = .int .i64 k ∧ OwnI wr g c1 3 (fun j => if j < k then mx ([x0, x1, x2].getD j 0) ([y0, y1, y2].getD j 0) else [x0, x1, x2].getD j 0) ∧ Below w.heap.size w wr ∧ Hid (∀ i, i < 3 → wr.cell? ⟨b', off' + i, none⟩ = some (.int .i64 ([y0, y1, y2].getD i 0)))) (fun i _ => 3 - (intOf i).toNat)
  case atStart => exact ⟨0, by omega, rfl, hog.congr fun i _ => by simp, B1, HYC⟩
  case round =>
    obtain ⟨k, hk, rfl, ho, hnx, hyk⟩ := hrel
    by_cases hlt : k < 3
    · obtain ⟨x, hx⟩ : ∃ x, x = [x0, x1, x2].getD k 0 := ⟨_, rfl⟩
      obtain ⟨y, hy⟩ : ∃ y, y = [y0, y1, y2].getD k 0 := ⟨_, rfl⟩
      have hcy : wr.cell? ⟨b', off' + k, none⟩ = some (.int .i64 y) := by rw [hy]; exact hyk.out k hlt
      have hcx : wr.cell? ⟨g, k, none⟩ = some (.int .i64 x) := by rw [ho.cell hlt, hx]; simp
      have hfx := ho.frozen k
      have hcn : 3 ≤ c1 := by obtain ⟨_, _, h, _⟩ := ho; exact h
      have HX := Lib.hid hx
      have HYk := Lib.hid hy
      clear hx hy
      have hk0 : (0 : Int) ≤ (k : Int) := Int.natCast_nonneg _
      have hk1 : (k : Int) < (3 : Int) := by omega
      by_cases hxy : x < y
      · go_wp2
        go_quiet (fail)
        go_wp2
        go_roundw
        case rel =>
          refine ⟨k + 1, by omega, by go_num, (ho.set k y).congr fun i hi => ?_, ?_, ?_⟩
          · by_cases e : i = k
            · subst e
              simp only [if_true, Nat.lt_succ_self]
              rw [← HX.out, ← HYk.out]
              unfold mx
              rw [if_pos (by omega)]
            · by_cases e2 : i < k
              · simp [e, e2, Nat.lt_succ_of_lt e2]
              · have : ¬ i < k + 1 := by omega
                simp [e, e2, this]
          · exact belowN (hnx.setCell (by show _ ≤ g; omega) _) _
          · intro i hi
            exact (World.cell?_setCell_other wr _ _ _ (by intro h; injection h; omega)).trans (hyk.out i hi)
        case measure => simp [intOf]; omega
      · have hd : decide (x < y) = false := by simpa using hxy
        have HXY := Lib.hid hxy
        clear hxy
        go_wp2
        go_quiet (fail)
        go_wp2
        go_roundw
        case rel =>
          have hxy := HXY.out
          refine ⟨k + 1, by omega, by go_num, OwnI.congr (w := wr) ho fun i hi => ?_, belowN hnx _, hyk⟩
          by_cases e : i = k
          · subst e
            simp only [Nat.lt_irrefl, if_false, Nat.lt_succ_self, if_true]
            rw [← HX.out, ← HYk.out]
            unfold mx
            rw [if_neg (by omega)]
          · by_cases e2 : i < k
            · simp [e2, Nat.lt_succ_of_lt e2]
            · have : ¬ i < k + 1 := by omega
              simp [e2, this]
        case measure => simp [intOf]; omega
    · obtain rfl : k = 3 := by omega
      go_wp2
      go_ret
      refine ⟨_, c1, rfl, .inr ⟨g, rfl, hgl, ho.congr fun i hi => ?_⟩, hnx⟩
      match i, hi with
      | 0, _ => simp
      | 1, _ => simp
      | 2, _ => simp

theorem spec_VectorMax (a a' : Option Addr) (c c' : Nat) (xs ys : List Int) (w : World) (hx : Rd w a xs) (hy : Rd w a' ys) (hl : xs.length ≤ 1048576) (hl' : ys.length ≤ 1048576) :
    Calls Try.prog 51 #[.slice a xs.length c, .slice a' ys.length c'] w (Gives w (vmap mx xs ys)) := by
  have hcx := fun w h => spec_validVector a c xs w h hl
  have hcy := fun w h => spec_validVector a' c' ys w h hl'
  cases hu : vv xs
  · have e : vmap mx xs ys = [] := by simp [vmap, hu]
    rw [e]
    rw [hu] at hcx
    have Hcx := Lib.hid hcx
    clear hcx hcy e hu
    go_enter Try.func51, Try.ntmps51
    go_wp2_with fail
    refine (Hcx.out _ hx).mono ?_
    rintro e w' ⟨rfl, rfl⟩
    go_wp2
    go_ret
    exact gives_nil _
  · cases hv : vv ys
    · have e : vmap mx xs ys = [] := by simp [vmap, hv]
      rw [e]
      rw [hu] at hcx
      rw [hv] at hcy
      have Hcx := Lib.hid hcx
      have Hcy := Lib.hid hcy
      clear hcx hcy e hu hv
      go_enter Try.func51, Try.ntmps51
      go_wp2_with fail
      refine (Hcx.out _ hx).mono ?_
      rintro e w' ⟨rfl, rfl⟩
      go_wp2_with fail
      refine (Hcy.out _ hy).mono ?_
      rintro e w' ⟨rfl, rfl⟩
      go_wp2
      go_ret
      exact gives_nil _
    · obtain ⟨x0, x1, x2, rfl⟩ := three hu
      obtain ⟨y0, y1, y2, rfl⟩ := three hv
      have e : vmap mx [x0, x1, x2] [y0, y1, y2] = [mx x0 y0, mx x1 y1, mx x2 y2] := by simp [vmap, hu, hv, ent]
      rw [e]
      rw [hu] at hcx
      rw [hv] at hcy
      have Hcx := Lib.hid hcx
      have Hcy := Lib.hid hcy
      clear hcx hcy e hu hv
      go_enter Try.func51, Try.ntmps51
      go_wp2_with fail
      refine (Hcx.out _ hx).mono ?_
      rintro e w' ⟨rfl, rfl⟩
      go_wp2_with fail
      refine (Hcy.out _ hy).mono ?_
      rintro e w' ⟨rfl, rfl⟩
      go_wp2_with fail
      refine (spec_vectorMax _ _ _ _ x0 x1 x2 y0 y1 y2 _ hx hy).mono ?_
      rintro e w4 ⟨a4, c4, rfl, hr4, hb4⟩
      go_wp2
      go_ret
      exact ⟨a4, c4, rfl, hr4, hb4⟩

end Go.Proofs.Ytkkeaimoplkliaa.RowC
