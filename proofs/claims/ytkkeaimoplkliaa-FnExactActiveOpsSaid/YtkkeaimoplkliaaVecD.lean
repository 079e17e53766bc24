/-
  Contracts of VectorLessEqual in both packages, and the walk of the law FnExactVectorLessEqual. For every argument; no condition.
-/
import Derived.Test.YtkkeaimoplkliaaVecC
import Derived.ChangeKeysEq
namespace Go.Proofs.Ytkkeaimoplkliaa.VecD
open Go.RowKit Go.Proofs.Ytkkeaimoplkliaa.Base Go.Proofs.Ytkkeaimoplkliaa.St Go.Proofs.Ytkkeaimoplkliaa.Vec Go.Proofs.Ytkkeaimoplkliaa.Row Go.Proofs.Ytkkeaimoplkliaa.VecA Go.Proofs.Ytkkeaimoplkliaa.VecC

def le3 (x0 x1 x2 y0 y1 y2 : Int) : Bool := decide (x0 ≤ y0) && (decide (x1 ≤ y1) && decide (x2 ≤ y2))
def vle (xs ys : List Int) : Bool := vv xs && (vv ys && le3 (ent xs 0) (ent xs 1) (ent xs 2) (ent ys 0) (ent ys 1) (ent ys 2))
theorem three {zs : List Int} (h : vv zs = true) : ∃ x y z, zs = [x, y, z] := by
  have h3 : zs.length = 3 := by simp [vv] at h; exact h.2
  match zs, h3 with
  | [x, y, z], _ => exact ⟨x, y, z, rfl⟩
theorem Rd.three {w : World} {a : Option Addr} {x y z : Int} (h : Rd w a [x, y, z]) : ∃ b off, a = some ⟨b, off, none⟩ ∧ w.cell? ⟨b, off, none⟩ = some (.int .i64 x) ∧ w.cell? ⟨b, off + 1, none⟩ = some (.int .i64 y) ∧ w.cell? ⟨b, off + 2, none⟩ = some (.int .i64 z) := by
  rcases h with h | ⟨b, off, ha, hc⟩
  · cases h
  · exact ⟨b, off, ha, hc 0 (by simp), hc 1 (by simp), hc 2 (by simp)⟩

theorem le3_upper (x0 x1 x2 y0 y1 y2 : Int) : (#[Value.int .i64 (mx x0 y0), Value.int .i64 (mx x1 y1), Value.int .i64 (mx x2 y2)] = #[Value.int .i64 y0, Value.int .i64 y1, Value.int .i64 y2]) ↔ le3 x0 x1 x2 y0 y1 y2 = true := by
  have e : ∀ x y : Int, mx x y = y ↔ x ≤ y := fun x y => by unfold mx; by_cases h : x < y <;> simp [h] <;> omega
  simp [le3, e]

theorem cells_int : Try.prog.cellsOf 3 = 1 := by kernel_rfl
theorem vecEq (m0 m1 m2 y0 y1 y2 : Int) (w : World) :
    (Op.equalIn 10000 84 (.agg #[.int .i64 m0, .int .i64 m1, .int .i64 m2]) (.agg #[.int .i64 y0, .int .i64 y1, .int .i64 y2])).run Try.prog w = .ok ((m0 == y0) && ((m1 == y1) && (m2 == y2))) w := by
  obtain ⟨i0, hi, _, _, _⟩ := info_parts info_int
  rw [run_equalIn_array w 9999 _ _ Try.underlying84 hi]
  rw [cells_int]
  simp [List.range_succ, Op.eqItems, go_sem, part]
  by_cases h0 : m0 = y0 <;> by_cases h1 : m1 = y1 <;> by_cases h2 : m2 = y2 <;> simp [h0, h1, h2]

/-- Two boxes of three cells stand in a world behind a call that made memory only; so does what lay below n. -/
theorem keepThrees {n b d : Nat} {x0 x1 x2 y0 y1 y2 : Value} {w0 W w2 : World}
    (h : Below n w0 W ∧ n ≤ W.heap.size ∧ b < W.heap.size ∧ d < W.heap.size ∧ W.cell? ⟨b, 0, none⟩ = some x0 ∧ W.cell? ⟨b, 1, none⟩ = some x1 ∧ W.cell? ⟨b, 2, none⟩ = some x2 ∧
      W.cell? ⟨d, 0, none⟩ = some y0 ∧ W.cell? ⟨d, 1, none⟩ = some y1 ∧ W.cell? ⟨d, 2, none⟩ = some y2) (hb : Below W.heap.size W w2) :
    Below n w0 w2 ∧ n ≤ w2.heap.size ∧ b < w2.heap.size ∧ d < w2.heap.size ∧ w2.cell? ⟨b, 0, none⟩ = some x0 ∧ w2.cell? ⟨b, 1, none⟩ = some x1 ∧ w2.cell? ⟨b, 2, none⟩ = some x2 ∧
      w2.cell? ⟨d, 0, none⟩ = some y0 ∧ w2.cell? ⟨d, 1, none⟩ = some y1 ∧ w2.cell? ⟨d, 2, none⟩ = some y2 := by
  obtain ⟨h0, hn, hz, hz', h1, h2, h3, h4, h5, h6⟩ := h
  have := hb.size
  exact ⟨h0.trans (hb.mono (by omega)), by omega, by omega, by omega, (hb.cell (by show b < _; omega)).trans h1, (hb.cell (by show b < _; omega)).trans h2, (hb.cell (by show b < _; omega)).trans h3,
    (hb.cell (by show d < _; omega)).trans h4, (hb.cell (by show d < _; omega)).trans h5, (hb.cell (by show d < _; omega)).trans h6⟩

end Go.Proofs.Ytkkeaimoplkliaa.VecD
