/-
  What the exact laws do with slices of bools: eqBoolS compares two, markBoolS writes marks, heldBoolS asks for them. For slices of at most 2^20 bools.
-/
import Derived.Test.YtkkeaimoplkliaaLiC
import Derived.Test.YtkkeaimoplkliaaLgT
import Derived.BigQuiet
import Derived.Deep.QuietTactic
namespace Go.Proofs.Ytkkeaimoplkliaa.LiB
open Go.RowKit Go.Proofs.Ytkkeaimoplkliaa.RowB
theorem RowBo.below {lo : Nat} {w w' : World} {a : Option Addr} {c n : Nat} {f : Nat → Bool} (h : RowBo lo w a c n f) (hb : Below w.heap.size w w') : RowBo lo w' a c n f := by
  rcases h with h | ⟨b, ha, hl, h⟩
  · exact .inl h
  · exact .inr ⟨b, ha, hl, h.below hb⟩
theorem RowBo.hi {lo : Nat} {w : World} {a : Option Addr} {c n : Nat} {f : Nat → Bool} (h : RowBo lo w a c n f) : ∀ b, blk a = some b → lo ≤ b ∧ b < w.heap.size := by
  rcases h with ⟨rfl, _⟩ | ⟨b, rfl, hl, h⟩
  · intro b hb; cases hb
  · intro b' hb
    obtain rfl : b = b' := by simpa [blk] using hb
    exact ⟨hl, h.lt⟩
theorem RowBo.grown {lo : Nat} {w w' : World} {a : Option Addr} {c n : Nat} {f : Nat → Bool} {r : Option Nat} (h : RowBo lo w a c n f) (hb : w.grownBy w' r) (hne : ∀ b, blk a = some b → r ≠ some b) : RowBo lo w' a c n f := by
  rcases h with h | ⟨b, rfl, hl, h⟩
  · exact .inl h
  · exact .inr ⟨b, rfl, hl, h.of_block (hb.block b h.lt (fun e => hne b rfl e.symm))⟩

end Go.Proofs.Ytkkeaimoplkliaa.LiB
namespace Go.Proofs.Ytkkeaimoplkliaa.LiD
open Go.RowKit Go.Proofs.Ytkkeaimoplkliaa.Base Go.Proofs.Ytkkeaimoplkliaa.Vec Go.Proofs.Ytkkeaimoplkliaa.Row Go.Proofs.Ytkkeaimoplkliaa.RowB Go.Proofs.Ytkkeaimoplkliaa.LgN Go.Proofs.Ytkkeaimoplkliaa.LiB
set_option linter.unusedVariables false

theorem eqB (lo lo' : Nat) (a a' : Option Addr) (c c' n : Nat) (f : Nat → Bool) (w : World) (hx : RowBo lo w a c n f) (hy : RowBo lo' w a' c' n f) (hn : n ≤ 1048576) :
    Calls Try.prog 42 #[.slice a n c, .slice a' n c'] w fun e w' => e = .returned (.bool true) ∧ Below w.heap.size w w' := by
  rcases hx with ⟨rfl, rfl⟩ | ⟨b, rfl, hlo, hox⟩
  · go_enter Try.func42, Try.ntmps42
    go_wp2
    go_rounds 1
    go_ret
    exact ⟨ret_bool (by simp), Below.refl _ _⟩
  · rcases hy with ⟨rfl, rfl⟩ | ⟨b', rfl, hlo', hoy⟩
    · go_enter Try.func42, Try.ntmps42
      go_wp2
      go_rounds 1
      go_ret
      exact ⟨ret_bool (by simp), Below.refl _ _⟩
    · have HX := Lib.hid hox
      have HY := Lib.hid hoy
      clear hox hoy
      go_enter Try.func42, Try.ntmps42
      go_wp2
      go_loopw [5] (fun i wr => ∃ k : Nat, k ≤ n ∧ i = .int .i64 k ∧ Below w.heap.size w wr) (fun i _ => n - (intOf i).toNat)
      case atStart => exact ⟨0, Nat.zero_le _, rfl, Below.refl _ _⟩
      case round =>
        obtain ⟨k, hk, rfl, hnx⟩ := hrel
        by_cases hlt : k < n
        · obtain ⟨x, hx⟩ : ∃ x, x = f k := ⟨_, rfl⟩
          have hcx : wr.cell? ⟨b, k, none⟩ = some (.bool x) := by rw [hx, hnx.cell (by exact HX.out.lt)]; exact HX.out.cell hlt
          have hcy : wr.cell? ⟨b', k, none⟩ = some (.bool x) := by rw [hx, hnx.cell (by exact HY.out.lt)]; exact HY.out.cell hlt
          clear hx
          have hk0 : (0 : Int) ≤ (k : Int) := Int.natCast_nonneg _
          have hk1 : (k : Int) < (n : Int) := by omega
          have hne : (x != x) = false := by simp
          go_wp2
          go_quiet (fail)
          go_wp2
          go_roundw
          case rel => exact ⟨k + 1, by omega, by go_num, ⟨hnx.os, hnx.tape, hnx.output, hnx.size, hnx.block⟩⟩
          case measure => simp [intOf]; omega
        · obtain rfl : k = n := by omega
          go_wp2
          go_ret
          exact ⟨rfl, hnx⟩

/-- The mark of place i, from k on. -/
def mk3 (k : Int) (i : Nat) : Bool := ((k + i) % 3 == 0)
theorem markB (lo : Nat) (a : Option Addr) (c n : Nat) (f : Nat → Bool) (k y : Int) (w : World) (hy : y = k + n) (hr : RowBo lo w a c n f) (hn : n ≤ 1048576) (hk : 0 ≤ k ∧ k ≤ 1099511627776) :
    Calls Try.prog 43 #[.slice a n c, .int .i64 k] w fun e w' => e = .returned (.int .i64 y) ∧ RowBo lo w' a c n (mk3 k) ∧ w.grownBy w' (blk a) := by
  subst hy
  obtain ⟨hk0, hk1⟩ := hk
  rcases hr with ⟨rfl, rfl⟩ | ⟨b, rfl, hlo, hown⟩
  · go_enter Try.func43, Try.ntmps43
    go_wp2
    go_rounds 1
    go_ret
    exact ⟨ret_int (by simp), .inl ⟨rfl, rfl⟩, World.grownBy.refl _ _⟩
  · go_enter Try.func43, Try.ntmps43
    go_wp2
    go_loopw [1, 5] (fun q i wr => ∃ j : Nat, j ≤ n ∧ i = .int .i64 j ∧ q = .int .i64 (k + j) ∧ OwnB wr b c n (fun m => if m < j then mk3 k m else f m) ∧ w.grownBy wr (some b)) (fun _ i _ => n - (intOf i).toNat)
    case atStart => exact ⟨0, Nat.zero_le _, rfl, by simp, hown.congr fun i _ => by simp, World.grownBy.refl _ _⟩
    case round =>
      obtain ⟨j, hj, rfl, rfl, ho, hg⟩ := hrel
      by_cases hlt : j < n
      · have hco := ho.cell hlt
        have hfo := ho.frozen j
        have hcn : n ≤ c := by obtain ⟨_, _, h, _⟩ := ho; exact h
        obtain ⟨v, hv⟩ : ∃ v, mk3 k j = v := ⟨_, rfl⟩
        have hv' : ((k + (j : Int)) % 3 == 0) = v := hv
        have HV := Lib.hid hv
        clear hv
        go_wp2
        go_roundw
        case rel =>
          refine ⟨j + 1, by omega, by go_num, by go_num, (ho.set j v).congr fun i hi => ?_, ?_⟩
          · by_cases e : i = j
            · subst e
              rw [if_pos rfl, if_pos (by omega), HV.out]
            · rw [if_neg e]
              by_cases e2 : i < j
              · rw [if_pos e2, if_pos (by omega)]
              · rw [if_neg e2, if_neg (by omega)]
          · exact grownBy_trans hg (grownBy_setCell _ _ _ _)
        case measure => simp [intOf]; omega
      · obtain rfl : j = n := by omega
        go_wp2
        go_ret
        exact ⟨rfl, .inr ⟨b, rfl, hlo, ho.congr fun i hi => by simp [hi]⟩, hg⟩

theorem heldB (lo : Nat) (a : Option Addr) (c n : Nat) (k y : Int) (w : World) (hy : y = k + n) (hr : RowBo lo w a c n (mk3 k)) (hn : n ≤ 1048576) (hk : 0 ≤ k ∧ k ≤ 1099511627776) :
    Calls Try.prog 44 #[.slice a n c, .int .i64 k] w fun e w' => e = .returned (.int .i64 y) ∧ Below w.heap.size w w' := by
  subst hy
  obtain ⟨hk0, hk1⟩ := hk
  rcases hr with ⟨rfl, rfl⟩ | ⟨b, rfl, hlo, hown⟩
  · go_enter Try.func44, Try.ntmps44
    go_wp2
    go_rounds 1
    go_ret
    exact ⟨ret_int (by simp), Below.refl _ _⟩
  · have hcn : n ≤ c := by obtain ⟨_, _, h, _⟩ := hown; exact h
    have HO := Lib.hid hown
    clear hown
    go_enter Try.func44, Try.ntmps44
    go_wp2
    go_loopw [1, 5] (fun q i wr => ∃ j : Nat, j ≤ n ∧ i = .int .i64 j ∧ q = .int .i64 (k + j) ∧ Below w.heap.size w wr) (fun _ i _ => n - (intOf i).toNat)
    case atStart => exact ⟨0, Nat.zero_le _, rfl, by simp, Below.refl _ _⟩
    case round =>
      obtain ⟨j, hj, rfl, rfl, hnx⟩ := hrel
      by_cases hlt : j < n
      · obtain ⟨v, hv⟩ : ∃ v, mk3 k j = v := ⟨_, rfl⟩
        have hco : wr.cell? ⟨b, j, none⟩ = some (.bool v) := by rw [← hv, hnx.cell (by exact HO.out.lt)]; exact HO.out.cell hlt
        have hv' : ((k + (j : Int)) % 3 == 0) = v := hv
        clear hv
        have hne : (v != v) = false := by simp
        go_wp2
        go_roundw
        case rel => exact ⟨j + 1, by omega, by go_num, by go_num, hnx⟩
        case measure => simp [intOf]; omega
      · obtain rfl : j = n := by omega
        go_wp2
        go_ret
        exact ⟨rfl, hnx⟩

end Go.Proofs.Ytkkeaimoplkliaa.LiD
