/-
  When two operations are equal, as the program's comparison says; the contract of impl.ValidOp, kind by kind. For every operation whose text is a Go string; no condition.
-/
import Derived.Test.YtdbnflgckcjlcaaOpE
import Derived.Test.YtdbnflgckcjlcaaOpF
import Derived.Deep.RegionLaw
namespace Go.Proofs.Ytdbnflgckcjlcaa.OpG
open Go.RowKit Go.Proofs.Ytdbnflgckcjlcaa.Base Go.Proofs.Ytdbnflgckcjlcaa.St Go.Proofs.Ytdbnflgckcjlcaa.StB Go.Proofs.Ytdbnflgckcjlcaa.OpA Go.Proofs.Ytdbnflgckcjlcaa.OpW Go.Proofs.Ytdbnflgckcjlcaa.OpB Go.Proofs.Ytdbnflgckcjlcaa.OpD Go.Proofs.Ytdbnflgckcjlcaa.OpE Go.Proofs.Ytdbnflgckcjlcaa.OpF
set_option linter.unusedVariables false

def eqO (x0 x1 x2 x3 x4 x5 x6 x7 x8 x9 : Int) (xe : Bool) (xt : ByteArray) (y0 y1 y2 y3 y4 y5 y6 y7 y8 y9 : Int) (ye : Bool) (yt : ByteArray) : Bool := x0 == y0 && (x1 == y1 && (x2 == y2 && (x3 == y3 && (x4 == y4 && (x5 == y5 && (x6 == y6 && (x7 == y7 && (x8 == y8 && (x9 == y9 && (xe == ye && xt.toList == yt.toList))))))))))
set_option maxHeartbeats 2000000 in
theorem opEq (x0 x1 x2 x3 x4 x5 x6 x7 x8 x9 : Int) (xe : Bool) (xt : ByteArray) (y0 y1 y2 y3 y4 y5 y6 y7 y8 y9 : Int) (ye : Bool) (yt : ByteArray) (w : World) :
    (Op.equalIn 10000 63 (.agg #[.int .i64 x0, .int .i64 x1, .int .i64 x2, .int .i64 x3, .int .i64 x4, .int .i64 x5, .int .i64 x6, .int .i64 x7, .int .i64 x8, .int .i64 x9, .bool xe, .string xt]) (.agg #[.int .i64 y0, .int .i64 y1, .int .i64 y2, .int .i64 y3, .int .i64 y4, .int .i64 y5, .int .i64 y6, .int .i64 y7, .int .i64 y8, .int .i64 y9, .bool ye, .string yt])).run Try.prog w = .ok (eqO x0 x1 x2 x3 x4 x5 x6 x7 x8 x9 xe xt y0 y1 y2 y3 y4 y5 y6 y7 y8 y9 ye yt) w := by
  unfold eqO
  simp [go_sem, Op.eqFields, part]
  by_cases h0 : x0 = y0
  rotate_left
  · simp [h0]
  rw [if_pos h0, h0, beq_self_eq_true, Bool.true_and]
  by_cases h1 : x1 = y1
  rotate_left
  · simp [h1]
  rw [if_pos h1, h1, beq_self_eq_true, Bool.true_and]
  by_cases h2 : x2 = y2
  rotate_left
  · simp [h2]
  rw [if_pos h2, h2, beq_self_eq_true, Bool.true_and]
  by_cases h3 : x3 = y3
  rotate_left
  · simp [h3]
  rw [if_pos h3, h3, beq_self_eq_true, Bool.true_and]
  by_cases h4 : x4 = y4
  rotate_left
  · simp [h4]
  rw [if_pos h4, h4, beq_self_eq_true, Bool.true_and]
  by_cases h5 : x5 = y5
  rotate_left
  · simp [h5]
  rw [if_pos h5, h5, beq_self_eq_true, Bool.true_and]
  by_cases h6 : x6 = y6
  rotate_left
  · simp [h6]
  rw [if_pos h6, h6, beq_self_eq_true, Bool.true_and]
  by_cases h7 : x7 = y7
  rotate_left
  · simp [h7]
  rw [if_pos h7, h7, beq_self_eq_true, Bool.true_and]
  by_cases h8 : x8 = y8
  rotate_left
  · simp [h8]
  rw [if_pos h8, h8, beq_self_eq_true, Bool.true_and]
  by_cases h9 : x9 = y9
  rotate_left
  · simp [h9]
  rw [if_pos h9, h9, beq_self_eq_true, Bool.true_and]
  by_cases h10 : xe = ye
  rotate_left
  · simp [h10]
  rw [if_pos h10, h10, beq_self_eq_true, Bool.true_and]
  by_cases h11 : xt.toList = yt.toList
  rotate_left
  · simp [h11]
  rw [if_pos h11, h11, beq_self_eq_true]

/-- A box of twelve cells at block n stands in a world behind a call that made memory only; so does what lay below n. -/
theorem keepOp {n : Nat} {c0 c1 c2 c3 c4 c5 c6 c7 c8 c9 c10 c11 : Value} {w0 W w2 : World}
    (h : Below n w0 W ∧ n < W.heap.size ∧ W.cell? ⟨n, 0, none⟩ = some c0 ∧ W.cell? ⟨n, 1, none⟩ = some c1 ∧ W.cell? ⟨n, 2, none⟩ = some c2 ∧ W.cell? ⟨n, 3, none⟩ = some c3 ∧ W.cell? ⟨n, 4, none⟩ = some c4 ∧ W.cell? ⟨n, 5, none⟩ = some c5 ∧ W.cell? ⟨n, 6, none⟩ = some c6 ∧ W.cell? ⟨n, 7, none⟩ = some c7 ∧ W.cell? ⟨n, 8, none⟩ = some c8 ∧ W.cell? ⟨n, 9, none⟩ = some c9 ∧ W.cell? ⟨n, 10, none⟩ = some c10 ∧ W.cell? ⟨n, 11, none⟩ = some c11) (hb : Below W.heap.size W w2) :
    Below n w0 w2 ∧ n < w2.heap.size ∧ w2.cell? ⟨n, 0, none⟩ = some c0 ∧ w2.cell? ⟨n, 1, none⟩ = some c1 ∧ w2.cell? ⟨n, 2, none⟩ = some c2 ∧ w2.cell? ⟨n, 3, none⟩ = some c3 ∧ w2.cell? ⟨n, 4, none⟩ = some c4 ∧ w2.cell? ⟨n, 5, none⟩ = some c5 ∧ w2.cell? ⟨n, 6, none⟩ = some c6 ∧ w2.cell? ⟨n, 7, none⟩ = some c7 ∧ w2.cell? ⟨n, 8, none⟩ = some c8 ∧ w2.cell? ⟨n, 9, none⟩ = some c9 ∧ w2.cell? ⟨n, 10, none⟩ = some c10 ∧ w2.cell? ⟨n, 11, none⟩ = some c11 := by
  obtain ⟨h0, hz, g0, g1, g2, g3, g4, g5, g6, g7, g8, g9, g10, g11⟩ := h
  have := hb.size
  exact ⟨h0.trans (hb.mono (by omega)), by omega, (hb.cell (by show n < _; omega)).trans g0, (hb.cell (by show n < _; omega)).trans g1, (hb.cell (by show n < _; omega)).trans g2, (hb.cell (by show n < _; omega)).trans g3, (hb.cell (by show n < _; omega)).trans g4, (hb.cell (by show n < _; omega)).trans g5, (hb.cell (by show n < _; omega)).trans g6, (hb.cell (by show n < _; omega)).trans g7, (hb.cell (by show n < _; omega)).trans g8, (hb.cell (by show n < _; omega)).trans g9, (hb.cell (by show n < _; omega)).trans g10, (hb.cell (by show n < _; omega)).trans g11⟩

end Go.Proofs.Ytdbnflgckcjlcaa.OpG
