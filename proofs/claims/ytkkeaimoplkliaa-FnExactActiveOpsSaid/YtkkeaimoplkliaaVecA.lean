/-
  The walks of the laws FnExactValidVector and FnExactVectorContains, and the contracts of the functions that they call. For every argument; no condition.
-/
import Derived.Test.YtkkeaimoplkliaaRow
namespace Go.Proofs.Ytkkeaimoplkliaa.VecA
open Go.RowKit Go.Proofs.Ytkkeaimoplkliaa.Base Go.Proofs.Ytkkeaimoplkliaa.St Go.Proofs.Ytkkeaimoplkliaa.Vec Go.Proofs.Ytkkeaimoplkliaa.Row

theorem isRow_rd {w : World} {a : Option Addr} {len cap : Nat} {zs : List Int} (h : IsRow .i64 w a len cap zs) : ∃ xs : List Int, xs.length = len ∧ Rd w a xs := by
  rcases h with ⟨rfl, rfl, rfl, rfl⟩ | ⟨x, rfl, hl, hm, hz, hc, _⟩
  · exact ⟨[], rfl, .inl rfl⟩
  · refine ⟨zs.take len, by simp; omega, ?_⟩
    by_cases h0 : len = 0
    · left; simp [h0]
    · obtain ⟨b, off, spot⟩ := x
      have h1 := hc 0 (by omega)
      have hspot : spot = none := by simpa [Addr.add] using World.cell?_spot h1
      subst hspot
      refine .inr ⟨b, off, rfl, fun i hi => ?_⟩
      have hi' : i < len := by simp at hi; omega
      have h2 := hc i (by omega)
      have e : (zs.take len).getD i 0 = zs.getD i 0 := by simp [List.getD_eq_getElem?_getD, hi']
      rw [e]
      rw [← h2]
      congr 1
      unfold Addr.add
      by_cases i0 : i = 0 <;> simp [i0]

/-- Does the vector contain the stamp? -/
def vcon (zs : List Int) (s a : Int) : Bool := vv zs && (vst s a && decide (s ≤ zs.getD a.toNat 0))

theorem spec_vectorContains (ad : Option Addr) (c : Nat) (zs : List Int) (s a : Int) (w : World) (hr : Rd w ad zs) (hv : vv zs = true) (hst : vst s a = true) :
    Calls Try.prog 75 #[.slice ad zs.length c, .agg #[.int .i64 s, .int .i64 a]] w fun e w' => e = .returned (.bool (decide (s ≤ zs.getD a.toNat 0))) ∧ Below w.heap.size w w' := by
  have h3 : zs.length = 3 := by simp [vv] at hv; exact hv.2
  obtain ⟨_, ha⟩ := (vst_iff s a).1 hst
  clear hv hst
  rcases hr with h | ⟨b, off, rfl, hc⟩
  · subst h; cases h3
  match zs, h3 with
  | [x, y, z], _ =>
    have c0 : w.cell? ⟨b, off, none⟩ = some (.int .i64 x) := hc 0 (by simp)
    have c1 : w.cell? ⟨b, off + 1, none⟩ = some (.int .i64 y) := hc 1 (by simp)
    have c2 : w.cell? ⟨b, off + 2, none⟩ = some (.int .i64 z) := hc 2 (by simp)
    have lb : b < w.heap.size := World.block_lt_of_cell? w _ c0
    clear hc
    obtain rfl | rfl | rfl : a = 0 ∨ a = 1 ∨ a = 2 := by omega
    all_goals
      go_enter Try.func75, Try.ntmps75
      go_wp2
      go_quiet (fail)
      go_wp2
      go_ret
      refine ⟨rfl, ?_⟩
      exact belowN ((Below.refl _ _).alloc (Nat.le_refl _) _) _

theorem vector_contains (x y z s a : Int) (w : World) (ha : 0 ≤ a ∧ a ≤ 2) :
    Calls Try.prog 74 #[.agg #[.int .i64 x, .int .i64 y, .int .i64 z], .agg #[.int .i64 s, .int .i64 a]] w fun e w' => e = .returned (.bool (decide (s ≤ [x, y, z].getD a.toNat 0))) ∧ Below w.heap.size w w' := by
  obtain rfl | rfl | rfl : a = 0 ∨ a = 1 ∨ a = 2 := by omega
  all_goals
    go_enter Try.func74, Try.ntmps74
    go_wp2
    go_quiet (fail)
    go_wp2
    go_ret
    refine ⟨rfl, ?_⟩
    exact belowN (((Below.refl _ _).alloc (Nat.le_refl _) _).alloc (by simp) _) _

theorem getD_ent (zs : List Int) (hv : vv zs = true) (i : Nat) : [ent zs 0, ent zs 1, ent zs 2].getD i 0 = zs.getD i 0 := by
  have h3 : zs.length = 3 := by simp [vv] at hv; exact hv.2
  match zs, h3 with
  | [x, y, z], _ => simp [ent, hv]

end Go.Proofs.Ytkkeaimoplkliaa.VecA
