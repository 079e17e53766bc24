/-
  The reader: what a call of it keeps; one and randomStamp. The position stays at most 10^6. For every reader; no further condition.
-/
import Derived.Test.YtmhflifaeplalaaRdA
namespace Go.Proofs.Ytmhflifaeplalaa.RdB
open Go.RowKit Go.Proofs.Ytmhflifaeplalaa.Base Go.Proofs.Ytmhflifaeplalaa.RdA

/-- Blocks that were there, but block R, are as they were. -/
structure Wr (R : Nat) (w w' : World) : Prop where
  os : w'.os = w.os
  tape : w'.tape = w.tape
  output : w'.output = w.output
  size : w.heap.size ≤ w'.heap.size
  block : ∀ k, k < w.heap.size → k ≠ R → w'.heap[k]? = w.heap[k]?
theorem Wr.refl (R : Nat) (w : World) : Wr R w w := ⟨rfl, rfl, rfl, Nat.le_refl _, fun _ _ _ => rfl⟩
theorem Wr.trans {R : Nat} {a b c : World} (h : Wr R a b) (k : Wr R b c) : Wr R a c :=
  ⟨k.os.trans h.os, k.tape.trans h.tape, k.output.trans h.output, Nat.le_trans h.size k.size, fun i hi hne => (k.block i (Nat.lt_of_lt_of_le hi h.size) hne).trans (h.block i hi hne)⟩
theorem Wr.of_below {R : Nat} {a b : World} (h : Below a.heap.size a b) : Wr R a b := ⟨h.os, h.tape, h.output, h.size, fun k hk _ => h.block k hk⟩
theorem Wr.alloc {R : Nat} {a b : World} (h : Wr R a b) (o : Obj) : Wr R a (b.alloc o) := h.trans (.of_below ((Below.refl _ _).alloc (Nat.le_refl _) _))
theorem Wr.drew {R : Nat} {a b : World} (h : Wr R a b) : Wr R a b.drew := ⟨h.os, h.tape, h.output, h.size, h.block⟩
theorem Wr.drewN {R : Nat} {a b : World} (h : Wr R a b) (n : Nat) : Wr R a (b.drewN n) := ⟨h.os, h.tape, h.output, h.size, h.block⟩
theorem Wr.cell {R : Nat} {a b : World} (h : Wr R a b) {k o : Nat} (hk : k < a.heap.size) (hne : k ≠ R) : b.cell? ⟨k, o, none⟩ = a.cell? ⟨k, o, none⟩ := by
  simp only [World.cell?, h.block k hk hne]
theorem Wr.frozen {R : Nat} {a b : World} (h : Wr R a b) {k o : Nat} (hk : k < a.heap.size) (hne : k ≠ R) : b.frozen? ⟨k, o, none⟩ = a.frozen? ⟨k, o, none⟩ := by
  simp only [World.frozen?, h.block k hk hne]
theorem Wr.setNew {R : Nat} {a b : World} (h : Wr R a b) {x : Addr} (hx : a.heap.size ≤ x.block) (v : Value) : Wr R a (b.setCell x v) :=
  ⟨h.os, h.tape, h.output, by simpa using h.size, fun k hk hne => by rw [Below.heap_setCell _ _ _ _ (by omega)]; exact h.block k hk hne⟩
theorem Wr.set (w : World) (R o : Nat) (v : Value) : Wr R w (w.setCell ⟨R, o, none⟩ v) :=
  ⟨rfl, rfl, rfl, by simp, fun k hk hne => Below.heap_setCell _ _ _ _ hne⟩
/-- Blocks below n: none but R has been written: what is said below n of a call's own frame. -/
theorem Wr.below {R n : Nat} {a b : World} (h : Wr R a b) (hn : n ≤ a.heap.size) (hR : n ≤ R) : Below n a b := ⟨h.os, h.tape, h.output, h.size, fun k hk => h.block k (by omega) (by omega)⟩

/-- A reader at block R, its bytes in a block below n. -/
def RS (n : Nat) (w : World) (R : Nat) (a : Option Addr) (cap p : Nat) (zs : List Int) : Prop :=
  Rdr w R a zs.length cap p ∧ R < n ∧ zs.length ≤ 2000 ∧
    (zs = [] ∨ ∃ b off, a = some ⟨b, off, none⟩ ∧ b < n ∧ b ≠ R ∧ ∀ i, i < zs.length → w.cell? ⟨b, off + i, none⟩ = some (.int .u8 (zs.getD i 0)) ∧ 0 ≤ zs.getD i 0 ∧ zs.getD i 0 ≤ 255)
theorem RS.keep {n R cap p : Nat} {w w' : World} {a : Option Addr} {zs : List Int} (h : RS n w R a cap p zs) (e : ∀ k, k < n → w'.heap[k]? = w.heap[k]?) : RS n w' R a cap p zs := by
  obtain ⟨h1, h2, h3, h4⟩ := h
  refine ⟨(e R h2).trans h1, h2, h3, ?_⟩
  rcases h4 with h4 | ⟨b, off, ha, hb, hne, hc⟩
  · exact .inl h4
  · refine .inr ⟨b, off, ha, hb, hne, fun i hi => ?_⟩
    have := hc i hi
    simp only [World.cell?, e b hb] at this ⊢
    exact this
theorem RS.below {n R cap p : Nat} {w w' : World} {a : Option Addr} {zs : List Int} (h : RS n w R a cap p zs) (hb : Below n w w') : RS n w' R a cap p zs := h.keep fun k hk => hb.block k hk
theorem RS.setNew {n R cap p : Nat} {w : World} {a : Option Addr} {zs : List Int} (h : RS n w R a cap p zs) {x : Addr} (hx : n ≤ x.block) (v : Value) : RS n (w.setCell x v) R a cap p zs :=
  h.keep fun k hk => Below.heap_setCell _ _ _ _ (by omega)
theorem RS.drewN {n R cap p : Nat} {w : World} {a : Option Addr} {zs : List Int} (h : RS n w R a cap p zs) (k : Nat) : RS n (w.drewN k) R a cap p zs := h.keep fun _ _ => rfl
theorem RS.step {n R cap p : Nat} {w : World} {a : Option Addr} {zs : List Int} (h : RS n w R a cap p zs) : RS n (stepW w R p) R a cap (p + 1) zs := by
  obtain ⟨h1, h2, h3, h4⟩ := h
  refine ⟨?_, h2, h3, ?_⟩
  · have := Joins.block_setCell (i := 1) h1 (.int .i64 ((p : Int) + 1))
    simpa [stepW, Rdr] using this
  · rcases h4 with h4 | ⟨b, off, ha, hb, hne, hc⟩
    · exact .inl h4
    · refine .inr ⟨b, off, ha, hb, hne, fun i hi => ?_⟩
      have := hc i hi
      unfold stepW
      simp only [World.cell?, Below.heap_setCell w ⟨R, 1, none⟩ (.int .i64 ((p : Int) + 1)) b hne] at this ⊢
      exact this

theorem pickS (n R : Nat) (a : Option Addr) (cap p m : Nat) (zs : List Int) (w : World) (h : RS n w R a cap p zs) (hp : p ≤ 1000000) (hm : 1 ≤ m) (hm2 : m ≤ 1000000) :
    Calls Try.prog 46 #[.pointer (some ⟨R, 0, none⟩), .int .i64 m] w fun e w' => (∃ v : Nat, v < m ∧ e = .returned (.int .i64 v)) ∧ RS n w' R a cap (p + 1) zs ∧ Wr R w w' := by
  obtain ⟨h1, h2, h3, h4⟩ := id h
  have key : Calls Try.prog 46 #[.pointer (some ⟨R, 0, none⟩), .int .i64 m] w fun e w' => (∃ v : Nat, v < m ∧ e = .returned (.int .i64 v)) ∧ ∃ k, w' = (stepW w R p).drewN k := by
    rcases h4 with rfl | ⟨b, off, rfl, hb, hne, hc⟩
    · exact pick0 R a cap p m w h1 hp hm hm2
    · exact pick R _ cap p m zs w h1 (.inr ⟨b, off, rfl, hc⟩) (fun x hx => by cases hx; exact hne) h3 hp hm hm2
  refine key.mono fun e w' ⟨hv, k, hw⟩ => ⟨hv, ?_, ?_⟩
  · rw [hw]; exact h.step.drewN k
  · rw [hw]; exact (Wr.set w R 1 _).drewN k

theorem one (n R : Nat) (a : Option Addr) (cap p : Nat) (zs : List Int) (w : World) (h : RS n w R a cap p zs) (hp : p ≤ 1000000) (g L : Nat) (xs : Nat → Int)
    (hg : ∀ i, i < L → w.cell? ⟨g, i, none⟩ = some (.int .i64 (xs i))) (hgR : g ≠ R) (hgw : g < w.heap.size) (hL : 1 ≤ L) (hL2 : L ≤ 1000) :
    Calls Try.prog 80 #[.pointer (some ⟨R, 0, none⟩), .slice (some ⟨g, 0, none⟩) L L] w fun e w' => (∃ v : Int, e = .returned (.int .i64 v)) ∧ RS n w' R a cap (p + 1) zs ∧ Wr R w w' := by
  have HP := Lib.hid (pickS n R a cap p L zs w h hp hL (by omega))
  have HG := Lib.hid hg
  clear hg h
  go_enter Try.func80, Try.ntmps80
  go_wp2_with fail
  refine HP.out.mono ?_
  rintro e w1 ⟨⟨v, hv, rfl⟩, hs, hw⟩
  have hc : w1.cell? ⟨g, v, none⟩ = some (.int .i64 (xs v)) := (hw.cell hgw hgR).trans (HG.out v hv)
  have hv0 : (0 : Int) ≤ (v : Int) := by omega
  have hv1 : (v : Int) < (L : Int) := by omega
  go_wp2
  go_ret
  exact ⟨⟨_, rfl⟩, hs, hw⟩

end Go.Proofs.Ytmhflifaeplalaa.RdB
