/-
  Rows of integers that a call hands back (nil, or new memory), and what the exact laws do to them: markIntS and heldIntS; slices.Clone of three integers. For slices of at most 2^20 numbers and small marks.
-/
import Derived.Test.YtkkeaimoplkliaaRow
import Derived.Maps.AppendAt
import Derived.WalkSpells
namespace Go.Proofs.Ytkkeaimoplkliaa.RowB
open Go.RowKit Go.Proofs.Ytkkeaimoplkliaa.Base Go.Proofs.Ytkkeaimoplkliaa.Vec Go.Proofs.Ytkkeaimoplkliaa.Row

/-- The slice at address a (capacity c) is nil and empty, or the head of a row of the call's own, from block lo on; its first n numbers are f 0, f 1, .. -/
def RowF (lo : Nat) (w : World) (a : Option Addr) (c n : Nat) (f : Nat → Int) : Prop :=
  (a = none ∧ n = 0) ∨ ∃ b, a = some ⟨b, 0, none⟩ ∧ lo ≤ b ∧ OwnI w b c n f
/-- The block that the slice lies in. -/
def blk (a : Option Addr) : Option Nat := a.map (·.block)
theorem RowF.rd {lo : Nat} {w : World} {a : Option Addr} {c : Nat} {zs : List Int} (h : RowF lo w a c zs.length (fun i => zs.getD i 0)) : Rd w a zs := by
  rcases h with ⟨_, h0⟩ | ⟨b, rfl, _, h⟩
  · exact .inl (List.eq_nil_of_length_eq_zero h0)
  · exact h.rd
theorem RowF.below {lo : Nat} {w w' : World} {a : Option Addr} {c n : Nat} {f : Nat → Int} (h : RowF lo w a c n f) (hb : Below w.heap.size w w') : RowF lo w' a c n f := by
  rcases h with h | ⟨b, ha, hl, h⟩
  · exact .inl h
  · exact .inr ⟨b, ha, hl, h.below hb⟩
theorem RowF.hi {lo : Nat} {w : World} {a : Option Addr} {c n : Nat} {f : Nat → Int} (h : RowF lo w a c n f) : ∀ b, blk a = some b → lo ≤ b ∧ b < w.heap.size := by
  rcases h with ⟨rfl, _⟩ | ⟨b, rfl, hl, h⟩
  · intro b hb; cases hb
  · intro b' hb
    obtain rfl : b = b' := by simpa [blk] using hb
    exact ⟨hl, h.lt⟩
theorem RowF.grown {lo : Nat} {w w' : World} {a : Option Addr} {c n : Nat} {f : Nat → Int} {r : Option Nat} (h : RowF lo w a c n f) (hb : w.grownBy w' r) (hne : ∀ b, blk a = some b → r ≠ some b) : RowF lo w' a c n f := by
  rcases h with h | ⟨b, rfl, hl, h⟩
  · exact .inl h
  · exact .inr ⟨b, rfl, hl, h.of_block (hb.block b h.lt (fun e => hne b rfl e.symm))⟩
theorem Rd.grown {w w' : World} {a : Option Addr} {zs : List Int} {r : Option Nat} (h : Rd w a zs) (hb : w.grownBy w' r) (hne : ∀ b, blk a = some b → r ≠ some b) : Rd w' a zs := by
  rcases h with h | ⟨b, off, rfl, hc⟩
  · exact .inl h
  · exact .inr ⟨b, off, rfl, fun i hi => (World.cell?_of_block (hb.block b (World.block_lt_of_cell? w _ (hc i hi)) (fun e => hne b rfl e.symm))).trans (hc i hi)⟩
theorem below_grown {B : Nat} {a w w' : World} {r : Option Nat} (h : Below B a w) (hg : w.grownBy w' r) (hB : B ≤ w.heap.size) (hr : ∀ b, r = some b → B ≤ b) : Below B a w' := h.grown hg hB hr

/-- The value returned is the slice of zs: nil, or in new memory. -/
def Gives (w : World) (zs : List Int) (e : Ending) (w' : World) : Prop :=
  ∃ a c, e = .returned (.slice a zs.length c) ∧ RowF w.heap.size w' a c zs.length (fun i => zs.getD i 0) ∧ Below w.heap.size w w'

theorem owned {base : Nat} {w : World} {v : Value} {zs : List Int} (h : w.ownsRow base 3 1 v zs.length (zs.map (Value.int .i64))) :
    ∃ a c, v = .slice a zs.length c ∧ RowF base w a c zs.length (fun i => zs.getD i 0) := by
  rcases h.2 with ⟨rfl, h0⟩ | ⟨g, cap, cur, rfl, hb, hh, hn, hm, hs, ht⟩
  · exact ⟨none, 0, by rw [h0], .inl ⟨rfl, h0⟩⟩
  · refine ⟨_, _, rfl, .inr ⟨g, rfl, hb, fun i => cur.getD i undef, ⟨cur, hh, by simpa using hs, fun i hi => ?_⟩, hn, fun i hi => ?_⟩⟩
    · show cur[i]? = some (cur.getD i undef)
      rw [Array.getD_eq_getD_getElem?, Array.getElem?_eq_getElem (by omega)]; rfl
    · have e : (cur.toList.take (zs.length * 1))[i]? = (zs.map (Value.int .i64))[i]? := by rw [ht]
      rw [Nat.mul_one, List.getElem?_take_of_lt hi, List.getElem?_map] at e
      rw [List.getElem?_eq_getElem hi] at e
      show cur.getD i undef = Value.int .i64 (zs.getD i 0)
      rw [Array.getD_eq_getD_getElem?, List.getD_eq_getElem?_getD, List.getElem?_eq_getElem hi]
      rw [← Array.getElem?_toList, e]
      rfl

theorem markIntS (a : Option Addr) (c n : Nat) (f : Nat → Int) (k : Int) (w : World) (lo : Nat) (hr : RowF lo w a c n f) (hn : n ≤ 1048576) (hk : 0 ≤ k ∧ k ≤ 1099511627776) :
    Calls Try.prog 33 #[.slice a n c, .int .i64 k] w fun e w' =>
      e = .returned (.int .i64 (k + n)) ∧ RowF lo w' a c n (fun i => k + i) ∧ w.grownBy w' (blk a) := by
  obtain ⟨hk0, hk1⟩ := hk
  rcases hr with ⟨rfl, rfl⟩ | ⟨b, rfl, hlo, hown⟩
  · go_enter Try.func33, Try.ntmps33
    go_wp2
    go_rounds 1
    go_ret
    exact ⟨ret_int (by simp), .inl ⟨rfl, rfl⟩, World.grownBy.refl _ _⟩
  · go_enter Try.func33, Try.ntmps33
    go_wp2
    go_loopw [1, 5] (fun q i wr => ∃ j : Nat, j ≤ n ∧ i = .int .i64 j ∧ q = .int .i64 (k + j) ∧ OwnI wr b c n (fun m => if m < j then k + m else f m) ∧ w.grownBy wr (some b)) (fun _ i _ => n - (intOf i).toNat)
    case atStart => exact ⟨0, Nat.zero_le _, rfl, by simp, hown.congr fun i _ => by simp, World.grownBy.refl _ _⟩
    case round =>
      obtain ⟨j, hj, rfl, rfl, ho, hg⟩ := hrel
      by_cases hlt : j < n
      · have hco := ho.cell hlt
        have hfo := ho.frozen j
        have hcn : n ≤ c := by obtain ⟨_, _, h, _⟩ := ho; exact h
        go_wp2
        go_roundw
        case rel =>
          refine ⟨j + 1, by omega, by go_num, by go_num, (ho.set j (k + j)).congr fun i hi => ?_, ?_⟩
          · by_cases e : i = j
            · subst e; simp
            · by_cases e2 : i < j
              · simp [e, e2, Nat.lt_succ_of_lt e2]
              · have : ¬ i < j + 1 := by omega
                simp [e, e2, this]
          · exact ⟨hg.os, hg.tape, hg.output, by simpa [World.setCell] using hg.size, fun i hi hne => (Below.heap_setCell _ _ _ _ (fun e => hne (by rw [e]))).trans (hg.block i hi hne)⟩
        case measure => simp [intOf]; omega
      · obtain rfl : j = n := by omega
        go_wp2
        go_ret
        exact ⟨rfl, .inr ⟨b, rfl, hlo, ho.congr fun i hi => by simp [hi]⟩, hg⟩

theorem heldIntS (a : Option Addr) (c n : Nat) (k : Int) (w : World) (lo : Nat) (hr : RowF lo w a c n (fun i => k + i)) (hn : n ≤ 1048576) (hk : 0 ≤ k ∧ k ≤ 1099511627776) :
    Calls Try.prog 34 #[.slice a n c, .int .i64 k] w fun e w' => e = .returned (.int .i64 (k + n)) ∧ w = w' := by
  obtain ⟨hk0, hk1⟩ := hk
  rcases hr with ⟨rfl, rfl⟩ | ⟨b, rfl, hlo, hown⟩
  · go_enter Try.func34, Try.ntmps34
    go_wp2
    go_rounds 1
    go_ret
    exact ⟨ret_int (by simp), rfl⟩
  · have hcn : n ≤ c := by obtain ⟨_, _, h, _⟩ := hown; exact h
    go_enter Try.func34, Try.ntmps34
    go_wp2
    go_loop [1, 5] (fun q i => ∃ j : Nat, j ≤ n ∧ i = .int .i64 j ∧ q = .int .i64 (k + j)) (fun _ i => n - (intOf i).toNat)
    case atStart => exact ⟨0, Nat.zero_le _, rfl, by simp⟩
    case round =>
      obtain ⟨j, hj, rfl, rfl⟩ := hrel
      by_cases hlt : j < n
      · have hco := hown.cell hlt
        go_wp2
        go_round
        case rel => exact ⟨j + 1, by omega, by go_num, by go_num⟩
        case measure => simp [intOf]; omega
      · obtain rfl : j = n := by omega
        go_wp2
        go_ret
        exact ⟨rfl, rfl⟩

end Go.Proofs.Ytkkeaimoplkliaa.RowB
