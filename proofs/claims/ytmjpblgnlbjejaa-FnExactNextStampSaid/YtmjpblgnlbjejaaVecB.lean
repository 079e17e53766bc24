/-
  The walk of the law FnExactVectorContains; contracts of VectorLessEqual and of upper and lower of the program's vectors, and the walk of the law FnExactVectorLessEqual. For every argument; no condition.
-/
import Derived.Test.YtmjpblgnlbjejaaVecA
namespace Go.Proofs.Ytmjpblgnlbjejaa.VecB
open Go.RowKit Go.Proofs.Ytmjpblgnlbjejaa.Base Go.Proofs.Ytmjpblgnlbjejaa.St Go.Proofs.Ytmjpblgnlbjejaa.Vec Go.Proofs.Ytmjpblgnlbjejaa.Row Go.Proofs.Ytmjpblgnlbjejaa.VecA

/-- A box of two cells at block n stands in a world behind a call that made memory only; so does what lay below n, and the slice that came in. -/
theorem keepBox {n : Nat} {s a : Value} {w0 W w2 : World}
    (h : Below n w0 W ∧ n < W.heap.size ∧ W.cell? ⟨n, 0, none⟩ = some s ∧ W.cell? ⟨n, 1, none⟩ = some a) (hb : Below W.heap.size W w2) :
    Below n w0 w2 ∧ n < w2.heap.size ∧ w2.cell? ⟨n, 0, none⟩ = some s ∧ w2.cell? ⟨n, 1, none⟩ = some a := by
  obtain ⟨h0, hz, h1, h2⟩ := h
  have := hb.size
  exact ⟨h0.trans (hb.mono (by omega)), by omega, (hb.cell (by show n < _; omega)).trans h1, (hb.cell (by show n < _; omega)).trans h2⟩
theorem newBox (w : World) (s a : Value) (T : TypeId) :
    Below w.heap.size w (w.alloc (.cells #[s, a] T)).drew ∧ w.heap.size < (w.alloc (.cells #[s, a] T)).drew.heap.size ∧
      (w.alloc (.cells #[s, a] T)).drew.cell? ⟨w.heap.size, 0, none⟩ = some s ∧ (w.alloc (.cells #[s, a] T)).drew.cell? ⟨w.heap.size, 1, none⟩ = some a := by
  refine ⟨((Below.refl _ _).alloc (Nat.le_refl _) _).drew, by simp [World.drew], ?_⟩
  simp [go_sem]

theorem walkVectorContains (ad : Option Addr) (len cap : Nat) (zs : List Int) (w : World) (h : IsRow .i64 w ad len cap zs) (s a : Int) (_hs : (Lit.int .i64 s).wf = true) (_ha : (Lit.int .i64 a).wf = true) :
    Calls Try.prog 7 #[.slice ad len cap, .agg #[.int .i64 s, .int .i64 a]] w fun e w' => e = .returned (.bool true) ∧ Below w.heap.size w w' := by
  obtain ⟨xs, rfl, hr⟩ := isRow_rd h
  clear h
  by_cases hl : xs.length ≤ 1048576
  · go_enter Try.func7, Try.ntmps7
    go_wp2_with fail
    go_region_held3 (fun w' => Below w.heap.size w w' ∧ w.heap.size < w'.heap.size ∧ w'.cell? ⟨w.heap.size, 0, none⟩ = some (.int .i64 s) ∧ w'.cell? ⟨w.heap.size, 1, none⟩ = some (.int .i64 a))
      (first | exact newBox _ _ _ _ | exact keepBox (by assumption) hb1 | exact keepBox (by assumption) hb2 | exact keepBox (by assumption) hb3)
      (first
        | (go_at_call 20; refine (toIntS _ _ xs _ (Rd.below hr (And.left (by assumption))) hl).mono ?_; rintro e w1 ⟨b1, rfl, hlb1, hown1, hb1⟩)
        | (go_at_call 14; refine (toStamp _ _ _).mono ?_; rintro e w2 ⟨rfl, hb2⟩; have hown2 := hown1.below hb2)
        | (go_at_call 23; refine (spec_VectorContains _ _ xs _ _ _ hown2.rd hl).mono ?_; rintro e w3 ⟨rfl, hb3⟩))
    obtain ⟨bel3, hz3, hs3, ha3⟩ := (by assumption : Below w.heap.size w w3 ∧ w.heap.size < w3.heap.size ∧ w3.cell? ⟨w.heap.size, 0, none⟩ = some (.int .i64 s) ∧ w3.cell? ⟨w.heap.size, 1, none⟩ = some (.int .i64 a))
    clear hown1 hown2 hb1 hb2 hb3
    go_wp2_with fail
    refine (toIntS _ _ xs _ (Rd.below hr bel3) hl).mono ?_
    rintro e w4 ⟨b4, rfl, hlb4, hown4, bel4⟩
    obtain ⟨hc4, hf4⟩ := oldCells bel4
    have hz4 := bel4.size
    go_wp2_with fail
    refine (toStamp _ _ _).mono ?_
    rintro e w5 ⟨rfl, bel5⟩
    have hown5 := hown4.below bel5
    have hz5 := bel5.size
    clear hc4 hf4
    go_wp2_with fail
    refine (impl_VectorContains _ _ xs _ _ _ hown5.rd hl).mono ?_
    rintro e w6 ⟨rfl, bel6⟩
    have hown6 := hown5.below bel6
    have hz6 := bel6.size
    have bel36 := ((bel3.trans (bel4.mono bel3.size)).trans (bel5.mono (by omega))).trans (bel6.mono (by omega))
    go_wp2_with fail
    refine (toIntS _ _ xs _ (Rd.below hr bel36) hl).mono ?_
    rintro e w7 ⟨b7, rfl, hlb7, hown7, bel7⟩
    have hown6' := hown6.below bel7
    have hz7 := bel7.size
    go_wp2_with fail
    refine (eqIntS _ _ _ _ xs xs _ hown6'.rd hown7.rd hl hl).mono ?_
    rintro e w8 ⟨rfl, bel8⟩
    go_wp2
    go_ret
    exact ⟨rfl, (bel36.trans (bel7.mono bel36.size)).trans (bel8.mono (by omega))⟩
  · have hl' : (1048576 : Int) < (xs.length : Int) := by omega
    go_enter Try.func7, Try.ntmps7
    go_wp2
    go_ret
    exact ⟨rfl, (Below.refl _ _).alloc (Nat.le_refl _) _⟩

end Go.Proofs.Ytmjpblgnlbjejaa.VecB
