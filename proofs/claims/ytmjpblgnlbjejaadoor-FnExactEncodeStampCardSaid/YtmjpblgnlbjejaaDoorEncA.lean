/-
  Contracts of formatInt of the model at numbers from 0 to 99. No further condition.
-/
import Derived.Test.YtmjpblgnlbjejaaDoorSt
import Derived.Lib.ItoaNum
import Derived.Laws.BytesArg
namespace Go.Proofs.YtmjpblgnlbjejaaDoor.EncA
open Go.RowKit Go.Proofs.YtmjpblgnlbjejaaDoor.Base Go.Proofs.YtmjpblgnlbjejaaDoor.St

/-- One byte, laid in a slice of its own, as a text. -/
theorem conv1 (b : Nat) (m : Int) (W : World) (h : W.cell? ⟨b, 0, none⟩ = some (.int .u8 m)) :
    (convert 32 9 (.slice (some ⟨b, 0, none⟩) 1 1)).run Tryd.prog W = .ok (.string (strOfNums [m])) W := by
  have hcell : ∀ i, i < 1 → W.cell? ⟨b, 0 + i, none⟩ = some (.int .u8 ([m].getD i 0)) := fun i hi => by
    have h0 : i = 0 := by omega
    rw [h0]
    exact h
  exact run_convert_bytes_arg W 32 5 Tryd.underlying32 Tryd.underlying5 b 0 1 1 [m] rfl hcell 9 Tryd.underlying9
attribute [local go_sem] conv1

/-- A number's decimal digits as a text. -/
def dtext (n : Nat) : ByteArray := ⟨(Lib.decDigits n).toArray⟩
theorem dtext1 (n : Nat) (h : n < 10) : strOfNums [48 + (n : Int)] = dtext n := by
  have e : (48 + (n : Int)).toNat = 48 + n := by omega
  unfold dtext
  rw [Lib.decDigits_one h]
  unfold strOfNums
  rw [List.map_cons, List.map_nil, e]
theorem wrapR (n : Nat) : IntKind.u8.wrap (IntKind.i64.wrap (48 + (n : Int).tmod 10)) = 48 + (n : Int) % 10 := by
  have e : (n : Int).tmod 10 = (n : Int) % 10 := Int.tmod_eq_emod_of_nonneg (by omega)
  rw [e]
  simp [IntKind.wrap, IntKind.bits, IntKind.signed]
  omega
theorem dtext2 (n : Nat) (h : ¬ n < 10) (h2 : n < 100) : dtext (n / 10) ++ strOfNums [IntKind.u8.wrap (IntKind.i64.wrap (48 + (n : Int).tmod 10))] = dtext n := by
  have e : (48 + (n : Int) % 10).toNat = 48 + n % 10 := by omega
  rw [wrapR]
  unfold dtext
  rw [Lib.decDigits_two h h2, Lib.decDigits_one (by omega)]
  unfold strOfNums
  rw [List.map_cons, List.map_nil, e]
  rfl
theorem dsize (n : Nat) (h : n < 100) : (dtext n).size ≤ 2 := by
  unfold dtext
  by_cases h9 : n < 10
  · rw [Lib.decDigits_one h9]; decide +revert
  · rw [Lib.decDigits_two h9 h]; decide +revert
/-- A short text and a byte behind it are no great text. -/
theorem addByte (a : ByteArray) (m : Int) (h : a.size ≤ 2) : (9223372036854775807 < a.size + (strOfNums [m]).size) = False := by
  rw [strOfNums_size]
  simp
  omega
theorem wrapQ (n : Nat) (h : n < 100) : IntKind.i64.wrap ((n : Int) / 10) = ((n / 10 : Nat) : Int) := by
  have e : ((n / 10 : Nat) : Int) = (n : Int) / 10 := by omega
  rw [e]
  simp [IntKind.wrap, IntKind.bits, IntKind.signed]
  omega

theorem formatInt1 (q : Int) (n : Nat) (hq : q = n) (h9 : n < 10) (w : World) :
    Calls Tryd.prog 25 #[.int .i64 q] w fun e w' => e = .returned (.string (dtext n)) ∧ Below w.heap.size w w' := by
  subst hq
  have h0 : ¬ (n : Int) < -9223372036854775807 := by omega
  have h1 : ¬ (n : Int) < 0 := by omega
  have h2 : (n : Int) < 10 := by omega
  go_enter Tryd.func25, Tryd.ntmps25
  go_wp2
  go_ret
  exact ⟨congrArg (fun x => Ending.returned (Value.string x)) (dtext1 n h9), (Below.refl _ _).alloc (Nat.le_refl _) _⟩

theorem formatInt2 (n : Nat) (h9 : ¬ n < 10) (h99 : n < 100) (w : World) :
    Calls Tryd.prog 25 #[.int .i64 n] w fun e w' => e = .returned (.string (dtext n)) ∧ Below w.heap.size w w' := by
  have h0 : ¬ (n : Int) < -9223372036854775807 := by omega
  have h1 : ¬ (n : Int) < 0 := by omega
  have h2 : ¬ (n : Int) < 10 := by omega
  have hm : 0 ≤ (n : Int) % 10 := by omega
  have hm2 : (n : Int) % 10 < 10 := by omega
  have ha := fun m => addByte (dtext (n / 10)) m (dsize _ (by omega))
  go_enter Tryd.func25, Tryd.ntmps25
  go_wp2_with fail
  go_region_with ((go_at_call 25; refine (formatInt1 _ (n / 10) (wrapQ n h99) (by omega) _).mono ?_; rintro e w1 ⟨rfl, hb1⟩; have hc1 := (oldCells hb1).1 w.heap.size 0))
  all_goals go_wp2
  all_goals go_ret
  all_goals
    refine ⟨congrArg (fun x => Ending.returned (Value.string x)) (dtext2 n h9 h99), ?_⟩
    first
      | exact (((Below.refl _ _).drew).trans hb1).alloc hb1.size _
      | exact (((Below.refl _ _).alloc (Nat.le_refl _) _).drew).trans (hb1.mono (by simp))

theorem formatInt (n : Nat) (h : n < 100) (w : World) :
    Calls Tryd.prog 25 #[.int .i64 n] w fun e w' => e = .returned (.string (dtext n)) ∧ Below w.heap.size w w' := by
  by_cases h9 : n < 10
  · exact formatInt1 _ n rfl h9 w
  · exact formatInt2 n h9 h w

end Go.Proofs.YtmjpblgnlbjejaaDoor.EncA
