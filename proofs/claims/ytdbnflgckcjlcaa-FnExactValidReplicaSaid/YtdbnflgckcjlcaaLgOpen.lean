/-
  How a slice of operations that comes in as an argument reads: a list of operations, each text a Go string. For every argument.
-/
import Derived.Test.YtdbnflgckcjlcaaK2
import Derived.Test.YtdbnflgckcjlcaaK1
import Derived.Deep.Slices
namespace Go.Proofs.Ytdbnflgckcjlcaa.LgOpen
open Go.ChangeShapes Go.WideShapes Go.ChangeAt Go.RowKit Go.Joins Go.Deep Go.Proofs.Ytdbnflgckcjlcaa.Base Go.Proofs.Ytdbnflgckcjlcaa.OpB Go.Proofs.Ytdbnflgckcjlcaa.LgA Go.Proofs.Ytdbnflgckcjlcaa.Open

set_option maxRecDepth 100000
instance : Inhabited OpV := ⟨zop⟩

section
variable {H : Type} {enc : TypeId × Value → H} {w : World} {base : Nat} {spare : Nat → Bool} {held : Bool}

theorem open_ops {r : Reach} {b0 : Nat} {v : Value} {d : DataW H} {p : List MemPlace} (hv : Value.okWide Try.prog w r b0 27 v) (h : DataW.Trod enc Try.prog w base spare held 27 v d p) :
    ∃ a os c, v = .slice a os.length c ∧ RdO w a os ∧ os.length ≤ maxLen ∧ ∀ k, k < os.length → (os.getD k zop).tx.size ≤ maxLen := by
  obtain ⟨a, len, cap, rfl⟩ := okWide_slice Try.underlying27 hv
  obtain ⟨fuel, hf⟩ := h
  rcases open_slice Try.underlying27 hf with ⟨hcs, _⟩ | ⟨x, l, c, m, n, D, Pl, hcs, _, hl, hm, hmm, _, hi⟩
  · simp [Value.cells] at hcs
    obtain ⟨rfl, rfl, rfl⟩ := hcs
    exact ⟨none, [], 0, rfl, .inl rfl, by simp, by simp⟩
  · simp [Value.cells] at hcs
    obtain ⟨rfl, rfl, rfl⟩ := hcs
    have hle : len ≤ m := by rw [hmm]; split <;> omega
    rw [cells_op] at hi
    obtain ⟨f, hfn⟩ := choose_lt (α := OpV) (n := len) (p := fun i o => (∀ j v, (opL o)[j]? = some v → w.cell? ((x.add (i * 12)).add j) = some v) ∧ o.tx.size ≤ maxLen) (fun i hlt => by
      obtain ⟨cs', h1, h2⟩ := hi i (by omega)
      obtain ⟨_, hlen, hat⟩ := World.cells?_some h1
      obtain ⟨o, rfl, ht⟩ := op_cells hlen h2
      exact ⟨o, fun j v hj => (hat j (by have := (List.getElem?_eq_some_iff.1 hj).1; simpa [opL] using this)).trans hj, ht⟩)
    have hlen : ((List.range len).map f).length = len := by simp
    have hget : ∀ k, k < len → ((List.range len).map f).getD k zop = f k := fun k hk => by simp [List.getD_eq_getElem?_getD, hk]
    refine ⟨some x, (List.range len).map f, cap, by rw [hlen], ?_, by rw [hlen]; omega, fun k hk => by rw [hlen] at hk; rw [hget k hk]; exact (hfn k hk).2⟩
    by_cases h0 : len = 0
    · left; simp [h0]
    · obtain ⟨b, off, spot⟩ := x
      have h1 := (hfn 0 (by omega)).1 0 _ rfl
      have hspot : spot = none := by simpa [Addr.add] using World.cell?_spot h1
      subst hspot
      refine .inr ⟨b, off, rfl, fun k hk => ?_⟩
      rw [hlen] at hk
      rw [hget k hk]
      intro j v hj
      have := (hfn k hk).1 j v hj
      rw [Addr.add_mid, Addr.add_mid] at this
      exact this
end

end Go.Proofs.Ytdbnflgckcjlcaa.LgOpen
