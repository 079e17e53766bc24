/-
  Contracts of EncodeStamp of the model and of the program, and of what they call. For every stamp; no condition.
-/
import Derived.Test.YtmjpblgnlbjejaaDoorEncA
import Derived.Test.YtmjpblgnlbjejaaDoorShI
import Derived.Laws.Cover4
namespace Go.Proofs.YtmjpblgnlbjejaaDoor.EncB
open Go.RowKit Go.Proofs.YtmjpblgnlbjejaaDoor.Base Go.Proofs.YtmjpblgnlbjejaaDoor.St Go.Proofs.YtmjpblgnlbjejaaDoor.EncA

attribute [local go_sem] conv1

/-- A block of the call's own at n stands in the next world; so does what lay below it. -/
theorem nextW {n : Nat} {w W w1 : World} (hB : Below n w W) (hz : n < W.heap.size) (hb : Below W.heap.size W w1) :
    Below n w w1 ∧ n < w1.heap.size ∧ (∀ o, w1.cell? ⟨n, o, none⟩ = W.cell? ⟨n, o, none⟩) :=
  ⟨hB.trans (hb.mono (by omega)), by have := hb.size; omega, fun o => hb.cell (p := ⟨n, o, none⟩) hz⟩
/-- The call's own box of a stamp, kept. -/
def Box (w : World) (s a : Int) (W : World) : Prop :=
  Below w.heap.size w W ∧ w.heap.size < W.heap.size ∧ W.cell? ⟨w.heap.size, 0, none⟩ = some (.int .i64 s) ∧ W.cell? ⟨w.heap.size, 1, none⟩ = some (.int .i64 a)
theorem boxNew (w : World) (s a : Int) (T : TypeId) : Box w s a (w.alloc (.cells #[.int .i64 s, .int .i64 a] T)) :=
  ⟨(Below.refl _ _).alloc (Nat.le_refl _) _, by simp, by simp [go_sem], by simp [go_sem]⟩
theorem boxNext {w : World} {s a : Int} {W w1 : World} (h : Box w s a W) (hb : Below W.heap.size W w1) : Box w s a w1 := by
  obtain ⟨h0, hz, h1, h2⟩ := h
  obtain ⟨g0, g1, g2⟩ := nextW h0 hz hb
  exact ⟨g0, g1, (g2 0).trans h1, (g2 1).trans h2⟩
theorem boxAlloc {w : World} {s a : Int} {W : World} (h : Box w s a W) (o : Obj) : Box w s a (W.alloc o) := boxNext h ((Below.refl _ _).alloc (Nat.le_refl _) _)
theorem boxDrew {w : World} {s a : Int} {W : World} (h : Box w s a W) : Box w s a W.drew := ⟨h.1.drew, h.2.1, h.2.2.1, h.2.2.2⟩

/-- The zero stamp. -/
def zst (s a : Int) : Bool := decide (s = 0) && decide (a = 0)

theorem impl_isZero (s a : Int) (b : Bool) (hb : zst s a = b) (w : World) :
    Calls Tryd.prog 15 #[.agg #[.int .i64 s, .int .i64 a]] w fun e w' => e = .returned (.bool b) ∧ Below w.heap.size w w' := by
  subst hb
  by_cases h : s = 0
  · subst h
    by_cases h' : a = 0
    · subst h'
      go_enter Tryd.func15, Tryd.ntmps15
      go_wp2
      go_ret
      exact ⟨ret_bool (by simp [zst]), (Below.refl _ _).alloc (Nat.le_refl _) _⟩
    · have hne : (a == 0) = false := by simp [h']
      go_enter Tryd.func15, Tryd.ntmps15
      go_wp2
      go_ret
      exact ⟨ret_bool (by simp [zst, h']), (Below.refl _ _).alloc (Nat.le_refl _) _⟩
  · have hne : (s == 0) = false := by simp [h]
    go_enter Tryd.func15, Tryd.ntmps15
    go_wp2
    go_ret
    exact ⟨ret_bool (by simp [zst, h]), (Below.refl _ _).alloc (Nat.le_refl _) _⟩
theorem impl_Valid (s a : Int) (b : Bool) (hb : vst s a = b) (w : World) :
    Calls Tryd.prog 16 #[.agg #[.int .i64 s, .int .i64 a]] w fun e w' => e = .returned (.bool b) ∧ Below w.heap.size w w' := hb ▸ impl_ValidStamp s a w
theorem spec_valid (s a : Int) (b : Bool) (hb : vst s a = b) (w : World) :
    Calls Tryd.prog 13 #[.agg #[.int .i64 s, .int .i64 a]] w fun e w' => e = .returned (.bool b) ∧ Below w.heap.size w w' := hb ▸ spec_validStamp s a w

theorem addRune (a : ByteArray) (m : Int) (h : a.size ≤ 2) : (9223372036854775807 < a.size + (Utf8.encode m).size) = False := by
  have := encode_size_le m
  simp
  omega

/-- The text form of a valid stamp. -/
def etext (n : Nat) (a : Int) : ByteArray := dtext n ++ strOfNums [97 + a]

theorem etext_eq (n : Nat) (a : Int) (ha : 0 ≤ a) (ha2 : a ≤ 2) : dtext n ++ strOfNums [IntKind.u8.wrap (IntKind.i64.wrap (97 + a))] = etext n a := by
  have e : IntKind.u8.wrap (IntKind.i64.wrap (97 + a)) = 97 + a := by
    simp [IntKind.wrap, IntKind.bits, IntKind.signed]
    omega
  rw [e]
  rfl

set_option maxHeartbeats 2000000 in
theorem formatStamp (n : Nat) (a : Int) (hn : 1 ≤ n) (h99 : n < 100) (ha : 0 ≤ a) (ha2 : a ≤ 2) (w : World) :
    Calls Tryd.prog 14 #[.agg #[.int .i64 n, .int .i64 a]] w fun e w' => e = .returned (.string (etext n a)) ∧ Below w.heap.size w w' := by
  have hne : ((n : Int) == 0) = false := by simp; omega
  have hne2 : (n : Int) ≠ 0 := by omega
  have hn0 : n ≠ 0 := by omega
  have hs := fun m => addByte (dtext n) m (dsize n h99)
  go_enter Tryd.func14, Tryd.ntmps14
  go_wp2_with fail
  go_region_with ((go_at_call 25; refine (formatInt n h99 _).mono ?_; rintro e w1 ⟨rfl, hb1⟩; have hc1 := (oldCells hb1).1 (w.heap.size + 1) 0; have hc0 := (oldCells hb1).1 w.heap.size 1))
  all_goals go_wp2
  all_goals go_ret
  all_goals
    refine ⟨congrArg (fun x => Ending.returned (Value.string x)) (etext_eq n a ha ha2), ?_⟩
    first
      | exact ((((Below.refl _ _).alloc (Nat.le_refl _) _).drew).trans (hb1.mono (by simp))).alloc (Nat.le_trans (by simp) hb1.size) _
      | exact ((((Below.refl _ _).alloc (Nat.le_refl _) _).alloc (by simp) _).drew).trans (hb1.mono (by simp; omega))

end Go.Proofs.YtmjpblgnlbjejaaDoor.EncB
