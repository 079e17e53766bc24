/-
  How a slice of Row's that comes in as an argument reads: a list, each text a Go string, each number of 64 bits. For every argument.
-/
import Derived.Test.YtmhflifaeplalaaGwB
import Derived.Deep.Slices
namespace Go.Proofs.Ytmhflifaeplalaa.GwO
open Go.ChangeShapes Go.WideShapes Go.ChangeAt Go.RowKit Go.Joins Go.Deep Go.Proofs.Ytmhflifaeplalaa.Base Go.Proofs.Ytmhflifaeplalaa.GsA Go.Proofs.Ytmhflifaeplalaa.GwB
set_option maxRecDepth 100000
set_option linter.unusedVariables false

theorem cells_int : Try.prog.cellsOf 3 = 1 := by kernel_rfl
theorem cells_string : Try.prog.cellsOf 9 = 1 := by kernel_rfl
theorem cells_el : Try.prog.cellsOf 70 = 5 := by kernel_rfl
instance : Inhabited RowV := ⟨zRow⟩

theorem cells_stamp : Try.prog.cellsOf 68 = 2 := by kernel_rfl

section
variable {H : Type} {enc : TypeId × Value → H} {w : World} {base : Nat} {spare : Nat → Bool} {held : Bool}

theorem stamp_cells {fuel : Nat} {c0 c1 : Value} {x : DataW H × List MemPlace} (h : DataW.trod enc Try.prog w base spare held fuel 68 [c0, c1] = some x) :
    ∃ s a : Int, c0 = .int .i64 s ∧ c1 = .int .i64 a := by
  obtain ⟨xs, n, _, _, _, hl, hg⟩ := DataW.trod_struct Try.underlying68 h
  have hl2 : xs.length = 2 := hl
  match xs, hl2 with
  | [y0, y1], _ =>
    have g0 := hg 0 _ rfl
    have g1 := hg 1 _ rfl
    simp [cells_int] at g0 g1
    obtain ⟨s, e0, _, _⟩ := DataW.trod_int Try.underlying3 g0
    obtain ⟨a, e1, _, _⟩ := DataW.trod_int Try.underlying3 g1
    exact ⟨s, a, by simpa using e0, by simpa using e1⟩

theorem el_cells {fuel : Nat} {c : List Value} {x : DataW H × List MemPlace} (hc : c.length = 5) (h : DataW.trod enc Try.prog w base spare held fuel 70 c = some x) :
    ∃ o : RowV, c = [.int .i64 o.i, .int .i64 o.j, .int .i64 o.k, .int .i64 o.d, .string o.tx] ∧ o.tx.size ≤ maxLen ∧ (Lit.int .i64 o.k).wf = true ∧ (Lit.int .i64 o.d).wf = true := by
  obtain ⟨xs, n, _, _, _, hl, hg⟩ := DataW.trod_struct Try.underlying70 h
  have hl2 : xs.length = 4 := hl
  match c, hc with
  | [c0, c1, c2, c3, c4], _ =>
    match xs, hl2 with
    | [y0, y1, y2, y3], _ =>
      have g0 := hg 0 _ rfl
      have g1 := hg 1 _ rfl
      have g2 := hg 2 _ rfl
      have g3 := hg 3 _ rfl
      simp [cells_int, cells_stamp, cells_string] at g0 g1 g2 g3
      obtain ⟨i, j, rfl, rfl⟩ := stamp_cells g0
      obtain ⟨k, e1, _, wf1⟩ := DataW.trod_int Try.underlying3 g1
      obtain ⟨d, e2, _, wf2⟩ := DataW.trod_int Try.underlying3 g2
      obtain ⟨tx, e3, _, ht⟩ := DataW.trod_string Try.underlying9 g3
      obtain rfl : c2 = .int .i64 k := by simpa using e1
      obtain rfl : c3 = .int .i64 d := by simpa using e2
      obtain rfl : c4 = .string tx := by simpa using e3
      exact ⟨⟨i, j, k, d, tx⟩, rfl, ht, wf1, wf2⟩

theorem open_els {r : Reach} {b0 : Nat} {v : Value} {d : DataW H} {p : List MemPlace} (hv : Value.okWide Try.prog w r b0 27 v) (h : DataW.Trod enc Try.prog w base spare held 27 v d p) :
    ∃ a xs c, v = .slice a xs.length c ∧ RdG ERow w a xs ∧ xs.length ≤ maxLen ∧ (∀ k, k < xs.length → (xs.getD k zRow).tx.size ≤ maxLen) ∧ ∀ k, k < xs.length → (Lit.int .i64 (xs.getD k zRow).k).wf = true ∧ (Lit.int .i64 (xs.getD k zRow).d).wf = true := by
  obtain ⟨a, len, cap, rfl⟩ := okWide_slice Try.underlying27 hv
  obtain ⟨fuel, hf⟩ := h
  rcases open_slice Try.underlying27 hf with ⟨hcs, _⟩ | ⟨x, l, c, m, n, D, Pl, hcs, _, hl, hm, hmm, _, hi⟩
  · simp [Value.cells] at hcs
    obtain ⟨rfl, rfl, rfl⟩ := hcs
    exact ⟨none, [], 0, rfl, .inl rfl, by simp, by simp, by simp⟩
  · simp [Value.cells] at hcs
    obtain ⟨rfl, rfl, rfl⟩ := hcs
    have hle : len ≤ m := by rw [hmm]; split <;> omega
    rw [cells_el] at hi
    obtain ⟨f, hfn⟩ := choose_lt (α := RowV) (n := len) (p := fun i o => (∀ j v, (LRow o)[j]? = some v → w.cell? ((x.add (i * 5)).add j) = some v) ∧ o.tx.size ≤ maxLen ∧ (Lit.int .i64 o.k).wf = true ∧ (Lit.int .i64 o.d).wf = true) (fun i hlt => by
      obtain ⟨cs', h1, h2⟩ := hi i (by omega)
      obtain ⟨_, hlen, hat⟩ := World.cells?_some h1
      obtain ⟨o, rfl, ht⟩ := el_cells hlen h2
      exact ⟨o, fun j v hj => (hat j (by have := (List.getElem?_eq_some_iff.1 hj).1; simpa [LRow] using this)).trans hj, ht⟩)
    have hlen : ((List.range len).map f).length = len := by simp
    have hget : ∀ k, k < len → ((List.range len).map f).getD k zRow = f k := fun k hk => by simp [List.getD_eq_getElem?_getD, hk]
    refine ⟨some x, (List.range len).map f, cap, by rw [hlen], ?_, by rw [hlen]; omega, fun k hk => by rw [hlen] at hk; rw [hget k hk]; exact (hfn k hk).2.1, fun k hk => by rw [hlen] at hk; rw [hget k hk]; exact (hfn k hk).2.2⟩
    by_cases h0 : len = 0
    · left; simp [h0]
    · obtain ⟨b, off, spot⟩ := x
      have h1 := (hfn 0 (by omega)).1 0 _ rfl
      have hspot : spot = none := by simpa [Addr.add] using World.cell?_spot h1
      subst hspot
      refine .inr ⟨b, off, rfl, fun k hk => ?_⟩
      rw [hlen] at hk
      show w.rangeAt b (off + k * 5) (LRow (((List.range len).map f).getD k zRow))
      rw [hget k hk]
      intro j v hj
      have := (hfn k hk).1 j v hj
      rw [Addr.add_mid, Addr.add_mid] at this
      exact this
end

end Go.Proofs.Ytmhflifaeplalaa.GwO
