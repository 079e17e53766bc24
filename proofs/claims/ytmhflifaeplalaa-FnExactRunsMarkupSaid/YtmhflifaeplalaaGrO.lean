/-
  How a slice of Run's that comes in as an argument reads: a list, each text a Go string, each number of 64 bits. For every argument.
-/
import Derived.Test.YtmhflifaeplalaaGrB
import Derived.Deep.Slices
namespace Go.Proofs.Ytmhflifaeplalaa.GrO
open Go.ChangeShapes Go.WideShapes Go.ChangeAt Go.RowKit Go.Joins Go.Deep Go.Proofs.Ytmhflifaeplalaa.Base Go.Proofs.Ytmhflifaeplalaa.GsA Go.Proofs.Ytmhflifaeplalaa.GrB
set_option maxRecDepth 100000
set_option linter.unusedVariables false

theorem cells_int : Try.prog.cellsOf 3 = 1 := by kernel_rfl
theorem cells_string : Try.prog.cellsOf 9 = 1 := by kernel_rfl
theorem cells_el : Try.prog.cellsOf 81 = 2 := by kernel_rfl
instance : Inhabited RunV := ⟨zRun⟩

section
variable {H : Type} {enc : TypeId × Value → H} {w : World} {base : Nat} {spare : Nat → Bool} {held : Bool}

theorem el_cells {fuel : Nat} {c : List Value} {x : DataW H × List MemPlace} (hc : c.length = 2) (h : DataW.trod enc Try.prog w base spare held fuel 81 c = some x) :
    ∃ o : RunV, c = [.int .i64 o.m, .string o.tx] ∧ o.tx.size ≤ maxLen ∧ (Lit.int .i64 o.m).wf = true := by
  obtain ⟨xs, n, _, _, _, hl, hg⟩ := DataW.trod_struct Try.underlying81 h
  have hl2 : xs.length = 2 := hl
  match c, hc with
  | [c0, c1], _ =>
    match xs, hl2 with
    | [y0, y1], _ =>
      have g0 := hg 0 _ rfl
      have g1 := hg 1 _ rfl
      simp [cells_int, cells_string] at g0 g1
      obtain ⟨m, e0, _, wf0⟩ := DataW.trod_int Try.underlying3 g0
      obtain ⟨tx, e1, _, ht⟩ := DataW.trod_string Try.underlying9 g1
      obtain rfl : c0 = .int .i64 m := by simpa using e0
      obtain rfl : c1 = .string tx := by simpa using e1
      exact ⟨⟨m, tx⟩, rfl, ht, wf0⟩

theorem open_els {r : Reach} {b0 : Nat} {v : Value} {d : DataW H} {p : List MemPlace} (hv : Value.okWide Try.prog w r b0 40 v) (h : DataW.Trod enc Try.prog w base spare held 40 v d p) :
    ∃ a xs c, v = .slice a xs.length c ∧ RdG ERun w a xs ∧ xs.length ≤ maxLen ∧ (∀ k, k < xs.length → (xs.getD k zRun).tx.size ≤ maxLen) ∧ ∀ k, k < xs.length → (Lit.int .i64 (xs.getD k zRun).m).wf = true := by
  obtain ⟨a, len, cap, rfl⟩ := okWide_slice Try.underlying40 hv
  obtain ⟨fuel, hf⟩ := h
  rcases open_slice Try.underlying40 hf with ⟨hcs, _⟩ | ⟨x, l, c, m, n, D, Pl, hcs, _, hl, hm, hmm, _, hi⟩
  · simp [Value.cells] at hcs
    obtain ⟨rfl, rfl, rfl⟩ := hcs
    exact ⟨none, [], 0, rfl, .inl rfl, by simp, by simp, by simp⟩
  · simp [Value.cells] at hcs
    obtain ⟨rfl, rfl, rfl⟩ := hcs
    have hle : len ≤ m := by rw [hmm]; split <;> omega
    rw [cells_el] at hi
    obtain ⟨f, hfn⟩ := choose_lt (α := RunV) (n := len) (p := fun i o => (∀ j v, (LRun o)[j]? = some v → w.cell? ((x.add (i * 2)).add j) = some v) ∧ o.tx.size ≤ maxLen ∧ (Lit.int .i64 o.m).wf = true) (fun i hlt => by
      obtain ⟨cs', h1, h2⟩ := hi i (by omega)
      obtain ⟨_, hlen, hat⟩ := World.cells?_some h1
      obtain ⟨o, rfl, ht⟩ := el_cells hlen h2
      exact ⟨o, fun j v hj => (hat j (by have := (List.getElem?_eq_some_iff.1 hj).1; simpa [LRun] using this)).trans hj, ht⟩)
    have hlen : ((List.range len).map f).length = len := by simp
    have hget : ∀ k, k < len → ((List.range len).map f).getD k zRun = f k := fun k hk => by simp [List.getD_eq_getElem?_getD, hk]
    refine ⟨some x, (List.range len).map f, cap, by rw [hlen], ?_, by rw [hlen]; omega, fun k hk => by rw [hlen] at hk; rw [hget k hk]; exact (hfn k hk).2.1, fun k hk => by rw [hlen] at hk; rw [hget k hk]; exact (hfn k hk).2.2⟩
    by_cases h0 : len = 0
    · left; simp [h0]
    · obtain ⟨b, off, spot⟩ := x
      have h1 := (hfn 0 (by omega)).1 0 _ rfl
      have hspot : spot = none := by simpa [Addr.add] using World.cell?_spot h1
      subst hspot
      refine .inr ⟨b, off, rfl, fun k hk => ?_⟩
      rw [hlen] at hk
      show w.rangeAt b (off + k * 2) (LRun (((List.range len).map f).getD k zRun))
      rw [hget k hk]
      intro j v hj
      have := (hfn k hk).1 j v hj
      rw [Addr.add_mid, Addr.add_mid] at this
      exact this
end

end Go.Proofs.Ytmhflifaeplalaa.GrO
