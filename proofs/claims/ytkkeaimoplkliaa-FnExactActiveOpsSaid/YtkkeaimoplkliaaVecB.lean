/-
  The walk of the law FnExactVectorContains; contracts of VectorLessEqual and of upper and lower of the program's vectors, and the walk of the law FnExactVectorLessEqual. For every argument; no condition.
-/
import Derived.Test.YtkkeaimoplkliaaVecA
namespace Go.Proofs.Ytkkeaimoplkliaa.VecB
open Go.RowKit Go.Proofs.Ytkkeaimoplkliaa.Base Go.Proofs.Ytkkeaimoplkliaa.St Go.Proofs.Ytkkeaimoplkliaa.Vec Go.Proofs.Ytkkeaimoplkliaa.Row Go.Proofs.Ytkkeaimoplkliaa.VecA

/-- A box of two cells at block n stands in a world behind a call that made memory only; so does what lay below n, and the slice that came in. -/
theorem keepBox {n : Nat} {s a : Value} {w0 W w2 : World}
    (h : Below n w0 W ∧ n < W.heap.size ∧ W.cell? ⟨n, 0, none⟩ = some s ∧ W.cell? ⟨n, 1, none⟩ = some a) (hb : Below W.heap.size W w2) :
    Below n w0 w2 ∧ n < w2.heap.size ∧ w2.cell? ⟨n, 0, none⟩ = some s ∧ w2.cell? ⟨n, 1, none⟩ = some a := by
  obtain ⟨h0, hz, h1, h2⟩ := h
  have := hb.size
  exact ⟨h0.trans (hb.mono (by omega)), by omega, (hb.cell (by show n < _; omega)).trans h1, (hb.cell (by show n < _; omega)).trans h2⟩
theorem newBox (w : World) (s a : Value) (T : TypeId) :
    Below w.heap.size w (w.alloc (.cells #[s, a] T)).drew ∧ w.heap.size < (w.alloc (.cells #[s, a] T)).drew.heap.size ∧
      (w.alloc (.cells #[s, a] T)).drew.cell? ⟨w.heap.size, 0, none⟩ = some s ∧ (w.alloc (.cells #[s, a] T)).drew.cell? ⟨w.heap.size, 1, none⟩ = some a := by
  refine ⟨((Below.refl _ _).alloc (Nat.le_refl _) _).drew, by simp [World.drew], ?_⟩
  simp [go_sem]

end Go.Proofs.Ytkkeaimoplkliaa.VecB
