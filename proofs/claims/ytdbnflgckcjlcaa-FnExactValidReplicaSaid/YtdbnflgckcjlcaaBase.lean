/-
  Base of this seat's proofs: two closed facts about the loaded program, the reading of a slice of integers and of a struct of two integers that come in, and small words on worlds. No condition.
-/
import Derived.Test.YtdbnflgckcjlcaaRows
import Derived.WalkKit
import Derived.ProofKit
import Derived.OpenShut
import Derived.ShutString
import Derived.ChangeOld
import Derived.Below
import Derived.Lib.SmallJoins
import Derived.Lib.Hide
import Derived.BigQuiet
import Derived.Deep.QuietTactic
import Derived.Deep.RegionHeld3
namespace Go.Proofs.Ytdbnflgckcjlcaa.Base
open Go.ChangeShapes Go.WideShapes Go.ChangeAt Go.RowKit

theorem own : ownKnob Try.prog.godebug = none := by kernel_rfl
theorem laidOut : laidOutB Try.prog = true := by kernel_rfl

/-- A slice of integers as it came in: nil, or a row of cap cells with the numbers zs. -/
def IsRow (k : IntKind) (w : World) (a : Option Addr) (len cap : Nat) (zs : List Int) : Prop :=
  (a = none ∧ len = 0 ∧ cap = 0 ∧ zs = []) ∨
  ∃ x, a = some x ∧ len ≤ cap ∧ cap ≤ maxLen ∧ zs.length = cap ∧ (∀ i, i < zs.length → w.cell? (x.add i) = some (.int k (zs.getD i 0))) ∧ ∀ n ∈ zs, (Lit.int k n).wf = true

/-- n lies in lo .. hi. -/
def inR (n lo hi : Int) : Bool := decide (lo ≤ n) && decide (n ≤ hi)
theorem inR_iff (n lo hi : Int) : inR n lo hi = true ↔ lo ≤ n ∧ n ≤ hi := by simp [inR]
theorem inR_no (n lo hi : Int) : inR n lo hi = false ↔ ¬ (lo ≤ n ∧ n ≤ hi) := by
  rw [← inR_iff]; cases inR n lo hi <;> simp

/-- A valid stamp. -/
def vst (s a : Int) : Bool := inR s 1 99 && inR a 0 2
theorem vst_iff (s a : Int) : vst s a = true ↔ (1 ≤ s ∧ s ≤ 99) ∧ (0 ≤ a ∧ a ≤ 2) := by simp [vst, inR_iff]

theorem ret_bool {a b : Bool} (h : a = b) : Ending.returned (.bool a) = .returned (.bool b) := by rw [h]
theorem ret_int {k : IntKind} {a b : Int} (h : a = b) : Ending.returned (.int k a) = .returned (.int k b) := by rw [h]

/-- What lay below block B reads as it did, and is as free to be written as it was. -/
theorem oldCells {B : Nat} {w w' : World} (h : Below B w w') : (∀ b o, b < B → w'.cell? ⟨b, o, none⟩ = w.cell? ⟨b, o, none⟩) ∧ (∀ b o, b < B → w'.frozen? ⟨b, o, none⟩ = w.frozen? ⟨b, o, none⟩) :=
  ⟨fun b o hb => h.cell (p := ⟨b, o, none⟩) hb, fun b o hb => h.frozen (p := ⟨b, o, none⟩) hb⟩

theorem belowN {B : Nat} {a w : World} (h : Below B a w) (n : Nat) : Below B a (w.drewN n) := ⟨h.os, h.tape, h.output, h.size, h.block⟩

/-- Two boxes of two cells each, at block n and behind it, stand in a world behind a call that made memory only; so does what lay below n. -/
theorem keepTwo {n : Nat} {s a t b : Value} {w0 W w2 : World}
    (h : Below n w0 W ∧ n + 1 < W.heap.size ∧ W.cell? ⟨n, 0, none⟩ = some s ∧ W.cell? ⟨n, 1, none⟩ = some a ∧ W.cell? ⟨n + 1, 0, none⟩ = some t ∧ W.cell? ⟨n + 1, 1, none⟩ = some b) (hb : Below W.heap.size W w2) :
    Below n w0 w2 ∧ n + 1 < w2.heap.size ∧ w2.cell? ⟨n, 0, none⟩ = some s ∧ w2.cell? ⟨n, 1, none⟩ = some a ∧ w2.cell? ⟨n + 1, 0, none⟩ = some t ∧ w2.cell? ⟨n + 1, 1, none⟩ = some b := by
  obtain ⟨h0, hz, h1, h2, h3, h4⟩ := h
  have := hb.size
  exact ⟨h0.trans (hb.mono (by omega)), by omega, (hb.cell (by show n < _; omega)).trans h1, (hb.cell (by show n < _; omega)).trans h2, (hb.cell (by show n + 1 < _; omega)).trans h3, (hb.cell (by show n + 1 < _; omega)).trans h4⟩
theorem newTwo (w : World) (s a t b : Value) (T U : TypeId) :
    Below w.heap.size w ((w.alloc (.cells #[s, a] T)).alloc (.cells #[t, b] U)).drew ∧ w.heap.size + 1 < ((w.alloc (.cells #[s, a] T)).alloc (.cells #[t, b] U)).drew.heap.size ∧
      ((w.alloc (.cells #[s, a] T)).alloc (.cells #[t, b] U)).drew.cell? ⟨w.heap.size, 0, none⟩ = some s ∧ ((w.alloc (.cells #[s, a] T)).alloc (.cells #[t, b] U)).drew.cell? ⟨w.heap.size, 1, none⟩ = some a ∧
      ((w.alloc (.cells #[s, a] T)).alloc (.cells #[t, b] U)).drew.cell? ⟨w.heap.size + 1, 0, none⟩ = some t ∧ ((w.alloc (.cells #[s, a] T)).alloc (.cells #[t, b] U)).drew.cell? ⟨w.heap.size + 1, 1, none⟩ = some b := by
  refine ⟨(((Below.refl _ _).alloc (Nat.le_refl _) _).alloc (by simp) _).drew, by simp [World.drew], ?_⟩
  simp [go_sem, World.cell?_alloc_some]

end Go.Proofs.Ytdbnflgckcjlcaa.Base
