/-
  How an operation that comes in as an argument, by value, reads: its twelve cells. For every argument.
-/
import Derived.Test.YtkkeaimoplkliaaOpB
namespace Go.Proofs.Ytkkeaimoplkliaa.Open
open Go.ChangeShapes Go.WideShapes Go.ChangeAt Go.RowKit Go.Joins Go.Proofs.Ytkkeaimoplkliaa.Base Go.Proofs.Ytkkeaimoplkliaa.OpB
set_option maxRecDepth 100000

theorem cells_stamp : Try.prog.cellsOf 23 = 2 := by kernel_rfl
theorem cells_int : Try.prog.cellsOf 3 = 1 := by kernel_rfl
theorem cells_bool : Try.prog.cellsOf 4 = 1 := by kernel_rfl
theorem cells_string : Try.prog.cellsOf 9 = 1 := by kernel_rfl
theorem cells_op : Try.prog.cellsOf 25 = 12 := by kernel_rfl

section
variable {H : Type} {enc : TypeId × Value → H} {w : World} {base : Nat} {spare : Nat → Bool} {held : Bool}

theorem stamp_cells {fuel : Nat} {c0 c1 : Value} {x : DataW H × List MemPlace} (h : DataW.trod enc Try.prog w base spare held fuel 23 [c0, c1] = some x) :
    ∃ s a : Int, c0 = .int .i64 s ∧ c1 = .int .i64 a := by
  obtain ⟨xs, n, _, _, _, hl, hg⟩ := DataW.trod_struct Try.underlying23 h
  have hl2 : xs.length = 2 := hl
  match xs, hl2 with
  | [y0, y1], _ =>
    have g0 := hg 0 _ rfl
    have g1 := hg 1 _ rfl
    simp [cells_int] at g0 g1
    obtain ⟨s, e0, _, _⟩ := DataW.trod_int Try.underlying3 g0
    obtain ⟨a, e1, _, _⟩ := DataW.trod_int Try.underlying3 g1
    exact ⟨s, a, by simpa using e0, by simpa using e1⟩

theorem op_cells {fuel : Nat} {c : List Value} {x : DataW H × List MemPlace} (hc : c.length = 12) (h : DataW.trod enc Try.prog w base spare held fuel 25 c = some x) :
    ∃ o : OpV, c = [.int .i64 o.i, .int .i64 o.j, .int .i64 o.k, .int .i64 o.ts, .int .i64 o.ta, .int .i64 o.fs, .int .i64 o.fa, .int .i64 o.ns, .int .i64 o.na, .int .i64 o.v, .bool o.en, .string o.tx] ∧ o.tx.size ≤ maxLen := by
  obtain ⟨xs, n, _, _, _, hl, hg⟩ := DataW.trod_struct Try.underlying25 h
  have hl2 : xs.length = 8 := hl
  match c, hc with
  | [c0, c1, c2, c3, c4, c5, c6, c7, c8, c9, c10, c11], _ =>
    match xs, hl2 with
    | [y0, y1, y2, y3, y4, y5, y6, y7], _ =>
      have g0 := hg 0 _ rfl
      have g1 := hg 1 _ rfl
      have g2 := hg 2 _ rfl
      have g3 := hg 3 _ rfl
      have g4 := hg 4 _ rfl
      have g5 := hg 5 _ rfl
      have g6 := hg 6 _ rfl
      have g7 := hg 7 _ rfl
      simp [cells_int, cells_stamp, cells_bool, cells_string] at g0 g1 g2 g3 g4 g5 g6 g7
      obtain ⟨i, j, rfl, rfl⟩ := stamp_cells g0
      obtain ⟨k, e1, _, _⟩ := DataW.trod_int Try.underlying3 g1
      obtain ⟨ts, ta, rfl, rfl⟩ := stamp_cells g2
      obtain ⟨fs, fa, rfl, rfl⟩ := stamp_cells g3
      obtain ⟨ns, na, rfl, rfl⟩ := stamp_cells g4
      obtain ⟨v, e5, _, _⟩ := DataW.trod_int Try.underlying3 g5
      obtain ⟨en, e6, _⟩ := DataW.trod_bool Try.underlying4 g6
      obtain ⟨tx, e7, _, ht⟩ := DataW.trod_string Try.underlying9 g7
      obtain rfl : c2 = .int .i64 k := by simpa using e1
      obtain rfl : c9 = .int .i64 v := by simpa using e5
      obtain rfl : c10 = .bool en := by simpa using e6
      obtain rfl : c11 = .string tx := by simpa using e7
      exact ⟨⟨i, j, k, ts, ta, fs, fa, ns, na, v, en, tx⟩, rfl, ht⟩

theorem open_op {r : Reach} {b0 : Nat} {v : Value} {d : DataW H} {p : List MemPlace} (hv : Value.okWide Try.prog w r b0 25 v) (h : DataW.Trod enc Try.prog w base spare held 25 v d p) :
    ∃ o : OpV, v = .agg #[.int .i64 o.i, .int .i64 o.j, .int .i64 o.k, .int .i64 o.ts, .int .i64 o.ta, .int .i64 o.fs, .int .i64 o.fa, .int .i64 o.ns, .int .i64 o.na, .int .i64 o.v, .bool o.en, .string o.tx] ∧ o.tx.size ≤ maxLen := by
  obtain ⟨cs, rfl, hsz⟩ := okWide_struct Try.underlying25 hv
  obtain ⟨fuel, hf⟩ := h
  obtain ⟨o, e, ht⟩ := op_cells (c := cs.toList) (by rw [Array.length_toList, hsz, cells_op]) (by simpa [Value.cells] using hf)
  refine ⟨o, ?_, ht⟩
  congr 1
  apply Array.toList_inj.1
  exact e
end

end Go.Proofs.Ytkkeaimoplkliaa.Open
