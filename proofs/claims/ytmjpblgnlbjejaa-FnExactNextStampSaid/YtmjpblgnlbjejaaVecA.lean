/-
  The walks of the laws FnExactValidVector and FnExactVectorContains, and the contracts of the functions that they call. For every argument; no condition.
-/
import Derived.Test.YtmjpblgnlbjejaaRow
namespace Go.Proofs.Ytmjpblgnlbjejaa.VecA
open Go.RowKit Go.Proofs.Ytmjpblgnlbjejaa.Base Go.Proofs.Ytmjpblgnlbjejaa.St Go.Proofs.Ytmjpblgnlbjejaa.Vec Go.Proofs.Ytmjpblgnlbjejaa.Row

theorem isRow_rd {w : World} {a : Option Addr} {len cap : Nat} {zs : List Int} (h : IsRow .i64 w a len cap zs) : ∃ xs : List Int, xs.length = len ∧ Rd w a xs := by
  rcases h with ⟨rfl, rfl, rfl, rfl⟩ | ⟨x, rfl, hl, hm, hz, hc, _⟩
  · exact ⟨[], rfl, .inl rfl⟩
  · refine ⟨zs.take len, by simp; omega, ?_⟩
    by_cases h0 : len = 0
    · left; simp [h0]
    · obtain ⟨b, off, spot⟩ := x
      have h1 := hc 0 (by omega)
      have hspot : spot = none := by simpa [Addr.add] using World.cell?_spot h1
      subst hspot
      refine .inr ⟨b, off, rfl, fun i hi => ?_⟩
      have hi' : i < len := by simp at hi; omega
      have h2 := hc i (by omega)
      have e : (zs.take len).getD i 0 = zs.getD i 0 := by simp [List.getD_eq_getElem?_getD, hi']
      rw [e]
      rw [← h2]
      congr 1
      unfold Addr.add
      by_cases i0 : i = 0 <;> simp [i0]

theorem spec_ValidVector (a : Option Addr) (c : Nat) (zs : List Int) (w : World) (hr : Rd w a zs) (hl : zs.length ≤ 1048576) :
    Calls Try.prog 19 #[.slice a zs.length c] w fun e w' => e = .returned (.bool (vv zs)) ∧ w = w' := by
  go_enter Try.func19, Try.ntmps19
  go_wp2_with (go_at_call 47; refine (spec_validVector _ _ zs _ hr hl).mono ?_; rintro e w' ⟨rfl, rfl⟩)
  go_ret
  exact ⟨rfl, rfl⟩

theorem impl_ValidVector (a : Option Addr) (c : Nat) (zs : List Int) (w : World) (hr : Rd w a zs) (hl : zs.length ≤ 1048576) :
    Calls Try.prog 21 #[.slice a zs.length c] w fun e w' => e = .returned (.bool (vv zs)) ∧ Below w.heap.size w w' := by
  go_enter Try.func21, Try.ntmps21
  go_wp2_with (go_at_call 48; refine (vectorOf _ _ zs _ hr hl).mono ?_; rintro e w1 ⟨rfl, hb1⟩)
  go_ret
  refine ⟨rfl, ?_⟩
  have hz1 := hb1.size
  go_grown

theorem walkValidVector (a : Option Addr) (len cap : Nat) (zs : List Int) (w : World) (h : IsRow .i64 w a len cap zs) :
    Calls Try.prog 6 #[.slice a len cap] w fun e w' => e = .returned (.bool true) ∧ Below w.heap.size w w' := by
  obtain ⟨xs, rfl, hr⟩ := isRow_rd h
  clear h
  by_cases hl : xs.length ≤ 1048576
  · go_enter Try.func6, Try.ntmps6
    go_wp2_with fail
    refine (toIntS _ _ xs _ hr hl).mono ?_
    rintro e w1 ⟨b1, rfl, hb1, hown1, bel1⟩
    go_wp2_with fail
    refine (spec_ValidVector _ _ xs _ hown1.rd hl).mono ?_
    rintro e w' ⟨rfl, rfl⟩
    go_wp2_with fail
    refine (toIntS _ _ xs _ (Rd.below hr bel1) hl).mono ?_
    rintro e w2 ⟨b2, rfl, hb2, hown2, bel2⟩
    go_wp2_with fail
    refine (impl_ValidVector _ _ xs _ hown2.rd hl).mono ?_
    rintro e w3 ⟨rfl, bel3⟩
    have hown3 := hown2.below bel3
    go_wp2_with fail
    have bel13 := (bel1.trans (bel2.mono bel1.size)).trans (bel3.mono (by have := bel1.size; have := bel2.size; omega))
    refine (toIntS _ _ xs _ (Rd.below hr bel13) hl).mono ?_
    rintro e w4 ⟨b4, rfl, hb4, hown4, bel4⟩
    have hown5 := hown3.below bel4
    go_wp2_with fail
    refine (eqIntS _ _ _ _ xs xs _ hown5.rd hown4.rd hl hl).mono ?_
    rintro e w5 ⟨rfl, bel5⟩
    go_wp2
    go_ret
    exact ⟨rfl, (bel13.trans (bel4.mono bel13.size)).trans (bel5.mono (by have := bel13.size; have := bel4.size; omega))⟩
  · have hl' : (1048576 : Int) < (xs.length : Int) := by omega
    go_enter Try.func6, Try.ntmps6
    go_wp2
    go_ret
    exact ⟨rfl, Below.refl _ _⟩

/-- Does the vector contain the stamp? -/
def vcon (zs : List Int) (s a : Int) : Bool := vv zs && (vst s a && decide (s ≤ zs.getD a.toNat 0))

theorem spec_vectorContains (ad : Option Addr) (c : Nat) (zs : List Int) (s a : Int) (w : World) (hr : Rd w ad zs) (hv : vv zs = true) (hst : vst s a = true) :
    Calls Try.prog 49 #[.slice ad zs.length c, .agg #[.int .i64 s, .int .i64 a]] w fun e w' => e = .returned (.bool (decide (s ≤ zs.getD a.toNat 0))) ∧ Below w.heap.size w w' := by
  have h3 : zs.length = 3 := by simp [vv] at hv; exact hv.2
  obtain ⟨_, ha⟩ := (vst_iff s a).1 hst
  clear hv hst
  rcases hr with h | ⟨b, off, rfl, hc⟩
  · subst h; cases h3
  match zs, h3 with
  | [x, y, z], _ =>
    have c0 : w.cell? ⟨b, off, none⟩ = some (.int .i64 x) := hc 0 (by simp)
    have c1 : w.cell? ⟨b, off + 1, none⟩ = some (.int .i64 y) := hc 1 (by simp)
    have c2 : w.cell? ⟨b, off + 2, none⟩ = some (.int .i64 z) := hc 2 (by simp)
    have lb : b < w.heap.size := World.block_lt_of_cell? w _ c0
    clear hc
    obtain rfl | rfl | rfl : a = 0 ∨ a = 1 ∨ a = 2 := by omega
    all_goals
      go_enter Try.func49, Try.ntmps49
      go_wp2
      go_quiet (fail)
      go_wp2
      go_ret
      refine ⟨rfl, ?_⟩
      exact belowN ((Below.refl _ _).alloc (Nat.le_refl _) _) _

theorem vector_contains (x y z s a : Int) (w : World) (ha : 0 ≤ a ∧ a ≤ 2) :
    Calls Try.prog 50 #[.agg #[.int .i64 x, .int .i64 y, .int .i64 z], .agg #[.int .i64 s, .int .i64 a]] w fun e w' => e = .returned (.bool (decide (s ≤ [x, y, z].getD a.toNat 0))) ∧ Below w.heap.size w w' := by
  obtain rfl | rfl | rfl : a = 0 ∨ a = 1 ∨ a = 2 := by omega
  all_goals
    go_enter Try.func50, Try.ntmps50
    go_wp2
    go_quiet (fail)
    go_wp2
    go_ret
    refine ⟨rfl, ?_⟩
    exact belowN (((Below.refl _ _).alloc (Nat.le_refl _) _).alloc (by simp) _) _

theorem spec_VectorContains (ad : Option Addr) (c : Nat) (zs : List Int) (s a : Int) (w : World) (hr : Rd w ad zs) (hl : zs.length ≤ 1048576) :
    Calls Try.prog 23 #[.slice ad zs.length c, .agg #[.int .i64 s, .int .i64 a]] w fun e w' => e = .returned (.bool (vcon zs s a)) ∧ Below w.heap.size w w' := by
  cases hv : vv zs
  · have hcon : vcon zs s a = false := by simp [vcon, hv]
    rw [hcon]
    clear hcon
    go_enter Try.func23, Try.ntmps23
    go_wp2_with (go_at_call 47; refine (spec_validVector _ _ zs _ (Rd.below hr ((Below.refl _ _).alloc (Nat.le_refl _) _)) hl).mono ?_; rintro e w' ⟨rfl, rfl⟩)
    go_ret
    exact ⟨rfl, (Below.refl _ _).alloc (Nat.le_refl _) _⟩
  · cases hst : vst s a
    · have hcon : vcon zs s a = false := by simp [vcon, hst]
      rw [hcon]
      clear hcon
      go_enter Try.func23, Try.ntmps23
      go_wp2_with (first
        | (go_at_call 47; refine (spec_validVector _ _ zs _ (Rd.below hr ((Below.refl _ _).alloc (Nat.le_refl _) _)) hl).mono ?_; rintro e w' ⟨rfl, rfl⟩)
        | (go_at_call 40; refine (spec_validStamp _ _ _).mono ?_; rintro e w2 ⟨rfl, hb2⟩))
      go_ret
      exact ⟨rfl, ((Below.refl _ _).alloc (Nat.le_refl _) _).trans (hb2.mono (by simp))⟩
    · have hcon : vcon zs s a = decide (s ≤ zs.getD a.toNat 0) := by simp [vcon, hv, hst]
      rw [hcon]
      clear hcon
      go_enter Try.func23, Try.ntmps23
      go_wp2_with fail
      refine (spec_validVector _ _ zs _ (Rd.below hr ((Below.refl _ _).alloc (Nat.le_refl _) _)) hl).mono ?_
      rintro e w' ⟨rfl, rfl⟩
      go_wp2_with fail
      refine (spec_validStamp _ _ _).mono ?_
      rintro e w2 ⟨rfl, hb2⟩
      obtain ⟨hc2, hf2⟩ := oldCells hb2
      have hz2 : w.heap.size < w2.heap.size := by have := hb2.size; simp at this; omega
      go_wp2_with fail
      refine (spec_vectorContains _ _ zs _ _ _ (Rd.below hr (((Below.refl _ _).alloc (Nat.le_refl _) _).trans (hb2.mono (by simp)))) hv hst).mono ?_
      rintro e w3 ⟨rfl, hb3⟩
      go_wp2
      go_ret
      exact ⟨rfl, (((Below.refl _ _).alloc (Nat.le_refl _) _).trans (hb2.mono (by simp))).trans (hb3.mono (by omega))⟩

theorem getD_ent (zs : List Int) (hv : vv zs = true) (i : Nat) : [ent zs 0, ent zs 1, ent zs 2].getD i 0 = zs.getD i 0 := by
  have h3 : zs.length = 3 := by simp [vv] at hv; exact hv.2
  match zs, h3 with
  | [x, y, z], _ => simp [ent, hv]

theorem impl_VectorContains (ad : Option Addr) (c : Nat) (zs : List Int) (s a : Int) (w : World) (hr : Rd w ad zs) (hl : zs.length ≤ 1048576) :
    Calls Try.prog 24 #[.slice ad zs.length c, .agg #[.int .i64 s, .int .i64 a]] w fun e w' => e = .returned (.bool (vcon zs s a)) ∧ Below w.heap.size w w' := by
  cases hv : vv zs
  · have hcon : vcon zs s a = false := by simp [vcon, hv]
    rw [hcon]
    clear hcon
    go_enter Try.func24, Try.ntmps24
    go_wp2_with (go_at_call 48; refine (vectorOf _ _ zs _ (Rd.below hr ((Below.refl _ _).alloc (Nat.le_refl _) _)) hl).mono ?_; rintro e w1 ⟨rfl, hb1⟩)
    go_ret
    refine ⟨rfl, ?_⟩
    have hz1 := hb1.size
    simp at hz1
    exact (((Below.refl _ _).alloc (Nat.le_refl _) _).trans (hb1.mono (by simp))).alloc (by omega) _
  · generalize hn0 : ent zs 0 = n0 at *
    cases hst : vst s a
    · have hcon : vcon zs s a = false := by simp [vcon, hst]
      rw [hcon]
      clear hcon
      go_enter Try.func24, Try.ntmps24
      go_wp2_with fail
      refine (vectorOf _ _ zs _ (Rd.below hr ((Below.refl _ _).alloc (Nat.le_refl _) _)) hl).mono ?_
      rintro e w1 ⟨rfl, hb1⟩
      obtain ⟨hc1, hf1⟩ := oldCells hb1
      have hz1 : w.heap.size < w1.heap.size := by have := hb1.size; simp at this; omega
      go_wp2_with fail
      refine (impl_ValidStamp _ _ _).mono ?_
      rintro e w2 ⟨rfl, hb2⟩
      go_wp2
      go_ret
      exact ⟨rfl, ((((Below.refl _ _).alloc (Nat.le_refl _) _).trans (hb1.mono (by simp))).alloc (by omega) _).trans (hb2.mono (by simp; omega))⟩
    · have hcon : vcon zs s a = decide (s ≤ [ent zs 0, ent zs 1, ent zs 2].getD a.toNat 0) := by rw [getD_ent zs hv]; simp [vcon, hv, hst]
      rw [hcon]
      clear hcon
      have HA := Lib.hid ((vst_iff s a).1 hst).2
      subst hn0
      go_enter Try.func24, Try.ntmps24
      go_wp2_with fail
      refine (vectorOf _ _ zs _ (Rd.below hr ((Below.refl _ _).alloc (Nat.le_refl _) _)) hl).mono ?_
      rintro e w1 ⟨rfl, hb1⟩
      obtain ⟨hc1, hf1⟩ := oldCells hb1
      have hz1 : w.heap.size < w1.heap.size := by have := hb1.size; simp at this; omega
      go_wp2_with fail
      refine (impl_ValidStamp _ _ _).mono ?_
      rintro e w2 ⟨rfl, hb2⟩
      obtain ⟨hc2, hf2⟩ := oldCells hb2
      have hz2 : w1.heap.size < w2.heap.size := by have := hb2.size; simp at this; omega
      go_wp2_with fail
      refine (vector_contains _ _ _ _ _ _ HA.out).mono ?_
      rintro e w3 ⟨rfl, hb3⟩
      go_wp2
      go_ret
      exact ⟨rfl, (((((Below.refl _ _).alloc (Nat.le_refl _) _).trans (hb1.mono (by simp))).alloc (by omega) _).trans (hb2.mono (by simp; omega))).trans (hb3.mono (by omega))⟩

end Go.Proofs.Ytmjpblgnlbjejaa.VecA
