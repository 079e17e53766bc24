/-
  A world in which one block was written; the box of one operation; a whole operation goes into the result's box. Plain facts on worlds; no condition.
-/
import Derived.Test.YtdiifcgalehhbaaK2
import Derived.Outline
namespace Go.Proofs.Ytdiifcgalehhbaa.MuW
open Go.RowKit Go.Proofs.Ytdiifcgalehhbaa.Base Go.Proofs.Ytdiifcgalehhbaa.StB Go.Proofs.Ytdiifcgalehhbaa.OpA Go.Proofs.Ytdiifcgalehhbaa.OpB Go.Proofs.Ytdiifcgalehhbaa.LgA Go.Proofs.Ytdiifcgalehhbaa.LgB Go.Proofs.Ytdiifcgalehhbaa.LgC
set_option linter.unusedVariables false

structure Wr (R : Nat) (w w' : World) : Prop where
  os : w'.os = w.os
  tape : w'.tape = w.tape
  output : w'.output = w.output
  size : w.heap.size ≤ w'.heap.size
  block : ∀ k, k < w.heap.size → k ≠ R → w'.heap[k]? = w.heap[k]?
theorem Wr.refl (R : Nat) (w : World) : Wr R w w := ⟨rfl, rfl, rfl, Nat.le_refl _, fun _ _ _ => rfl⟩
theorem Wr.trans {R : Nat} {a b c : World} (h : Wr R a b) (k : Wr R b c) : Wr R a c :=
  ⟨k.os.trans h.os, k.tape.trans h.tape, k.output.trans h.output, Nat.le_trans h.size k.size, fun i hi hne => (k.block i (Nat.lt_of_lt_of_le hi h.size) hne).trans (h.block i hi hne)⟩
theorem Wr.of_below {R : Nat} {a b : World} (h : Below a.heap.size a b) : Wr R a b := ⟨h.os, h.tape, h.output, h.size, fun k hk _ => h.block k hk⟩
theorem Wr.alloc {R : Nat} {a b : World} (h : Wr R a b) (o : Obj) : Wr R a (b.alloc o) := h.trans (.of_below ((Below.refl _ _).alloc (Nat.le_refl _) _))
theorem Wr.drew {R : Nat} {a b : World} (h : Wr R a b) : Wr R a b.drew := ⟨h.os, h.tape, h.output, h.size, h.block⟩
theorem Wr.drewN {R : Nat} {a b : World} (h : Wr R a b) (n : Nat) : Wr R a (b.drewN n) := ⟨h.os, h.tape, h.output, h.size, h.block⟩
theorem Wr.cell {R : Nat} {a b : World} (h : Wr R a b) {k o : Nat} (hk : k < a.heap.size) (hne : k ≠ R) : b.cell? ⟨k, o, none⟩ = a.cell? ⟨k, o, none⟩ := by
  simp only [World.cell?, h.block k hk hne]
theorem Wr.frozen {R : Nat} {a b : World} (h : Wr R a b) {k o : Nat} (hk : k < a.heap.size) (hne : k ≠ R) : b.frozen? ⟨k, o, none⟩ = a.frozen? ⟨k, o, none⟩ := by
  simp only [World.frozen?, h.block k hk hne]
theorem Wr.setNew {R : Nat} {a b : World} (h : Wr R a b) {x : Addr} (hx : a.heap.size ≤ x.block) (v : Value) : Wr R a (b.setCell x v) :=
  ⟨h.os, h.tape, h.output, by simpa using h.size, fun k hk hne => by rw [Below.heap_setCell _ _ _ _ (by omega)]; exact h.block k hk hne⟩
theorem Wr.set (w : World) (R o : Nat) (v : Value) : Wr R w (w.setCell ⟨R, o, none⟩ v) :=
  ⟨rfl, rfl, rfl, by simp, fun k hk hne => Below.heap_setCell _ _ _ _ hne⟩
/-- Blocks below n: none but R has been written: what is said below n of a call's own frame. -/
theorem Wr.below {R n : Nat} {a b : World} (h : Wr R a b) (hn : n ≤ a.heap.size) (hR : n ≤ R) : Below n a b := ⟨h.os, h.tape, h.output, h.size, fun k hk => h.block k (by omega) (by omega)⟩

/-- Block k is one operation's own box, which holds o. -/
def Box (w : World) (k : Nat) (o : OpV) : Prop := OwnO w k 1 1 (fun _ => o)
theorem Box.range {w : World} {k : Nat} {o : OpV} (h : Box w k o) : w.rangeAt k 0 (opL o) := by simpa using OwnO.range h (k := 0) (by omega)
theorem Box.lt {w : World} {k : Nat} {o : OpV} (h : Box w k o) : k < w.heap.size := OwnO.lt h
theorem Box.grown {w w' : World} {k : Nat} {o : OpV} {r : Option Nat} (h : Box w k o) (hb : w.grownBy w' r) (hne : r ≠ some k) : Box w' k o := OwnO.grown h hb hne
theorem Box.wr {w w' : World} {k R : Nat} {o : OpV} (h : Box w k o) (hw : Wr R w w') (hne : k ≠ R) : Box w' k o := OwnO.of_block h (hw.block k (OwnO.lt h) hne)
theorem Box.there {w : World} {k : Nat} {o : OpV} (h : Box w k o) (j m : Nat) (hj : j + m ≤ 12) : w.there k j m := by
  intro i hi
  have := OwnO.there h (k := 0) (by omega) (j + i) (by omega)
  simpa using this
theorem box_of {w : World} {k : Nat} {o : OpV} {g : Nat → Value} (h : w.rowIs k 28 12 g) (e : ∀ i, i < 12 → g i = (opL o).getD i undef) : Box w k o :=
  ⟨g, h, Nat.le_refl _, fun i hi j hj => by
    have : i = 0 := by omega
    subst this
    rw [show 0 * 12 + j = j by omega]
    exact e j hj⟩
theorem Box.row {w : World} {k : Nat} {o : OpV} (h : Box w k o) : ∃ g : Nat → Value, w.rowIs k 28 12 g ∧ ∀ i, i < 12 → g i = (opL o).getD i undef := by
  obtain ⟨g, h1, _, h3⟩ := h
  refine ⟨g, h1, fun i hi => ?_⟩
  have := h3 0 (by omega) i hi
  simpa using this
/-- A new box. -/
theorem box_new (w : World) (o : OpV) : Box (w.alloc (.cells #[.int .i64 o.i, .int .i64 o.j, .int .i64 o.k, .int .i64 o.ts, .int .i64 o.ta, .int .i64 o.fs, .int .i64 o.fa, .int .i64 o.ns, .int .i64 o.na, .int .i64 o.v, .bool o.en, .string o.tx] 28)) w.heap.size o := by
  refine box_of (g := fun i => (opL o).getD i undef) ⟨_, heap_alloc_new _ _, rfl, fun i hi => ?_⟩ fun _ _ => rfl
  show ((opL o).toArray)[i]? = some ((opL o).getD i undef)
  rw [List.getElem?_toArray, List.getD_eq_getElem?_getD, List.getElem?_eq_getElem (by simpa [opL_len] using hi)]
  rfl
theorem wr12 (w : World) (k : Nat) (v0 v1 v2 v3 v4 v5 v6 v7 v8 v9 v10 v11 : Value) : Wr k w ((((((((((((w.setCell ⟨k, 0, none⟩ v0).setCell ⟨k, 1, none⟩ v1).setCell ⟨k, 2, none⟩ v2).setCell ⟨k, 3, none⟩ v3).setCell ⟨k, 4, none⟩ v4).setCell ⟨k, 5, none⟩ v5).setCell ⟨k, 6, none⟩ v6).setCell ⟨k, 7, none⟩ v7).setCell ⟨k, 8, none⟩ v8).setCell ⟨k, 9, none⟩ v9).setCell ⟨k, 10, none⟩ v10).setCell ⟨k, 11, none⟩ v11) := (((((((((((((Wr.refl k w).trans (Wr.set _ k 0 v0)).trans (Wr.set _ k 1 v1)).trans (Wr.set _ k 2 v2)).trans (Wr.set _ k 3 v3)).trans (Wr.set _ k 4 v4)).trans (Wr.set _ k 5 v5)).trans (Wr.set _ k 6 v6)).trans (Wr.set _ k 7 v7)).trans (Wr.set _ k 8 v8)).trans (Wr.set _ k 9 v9)).trans (Wr.set _ k 10 v10)).trans (Wr.set _ k 11 v11))
/-- An operation goes into the result's box. -/
theorem boxRes {ops : Array Oper} {rest : List Oper} {op : Oper} {a : Act} {w : World} {Q : Exit → Act → World → Prop} (hgd : op.guard = none) (x y : Operand) (ho : op.op = .store 28 x y) {k : Nat} {o z : OpV} (hx : a.eval x = .pointer (some ⟨k, 0, none⟩)) (hy : a.eval y = .agg #[.int .i64 o.i, .int .i64 o.j, .int .i64 o.k, .int .i64 o.ts, .int .i64 o.ta, .int .i64 o.fs, .int .i64 o.fa, .int .i64 o.ns, .int .i64 o.na, .int .i64 o.v, .bool o.en, .string o.tx]) (h : Box w k z)
    (K : ∀ w', C12 w' k 0 o → Wr k w w' → wpList Try.prog ops Q rest (a.put op.dst undef) w') : wpList Try.prog ops Q (op :: rest) a w := by
  refine storeI hgd x y ho hx hy (h.there 0 12 (by omega)) (K _ ?_ ?_)
  · obtain ⟨g, hr, hg⟩ := h.row
    have hr2 := rowIs_setCells (opL o) 0 w g hr
    have e : (w.setCells k 0 (opL o)).rangeAt k 0 (opL o) := by
      intro j v hv
      have hj : j < 12 := by
        have := (List.getElem?_eq_some_iff.1 hv).1
        rwa [opL_len] at this
      rw [hr2.cell (i := 0 + j) (by omega), if_pos (by rw [opL_len]; omega), List.getD_eq_getElem?_getD, show 0 + j - 0 = j by omega, hv]
      rfl
    exact c12 e
  · exact wr12 w k _ _ _ _ _ _ _ _ _ _ _ _


end Go.Proofs.Ytdiifcgalehhbaa.MuW
