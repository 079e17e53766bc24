/-
  What the exact laws do with slices of integers: toIntS copies one into new memory, eqIntS compares two, markIntS writes marks into one of the call's own, heldIntS asks for the marks. For slices of at most 2^20 numbers.
-/
import Derived.Test.YtkkeaimoplkliaaVec
namespace Go.Proofs.Ytkkeaimoplkliaa.Row
open Go.RowKit Go.Proofs.Ytkkeaimoplkliaa.Base Go.Proofs.Ytkkeaimoplkliaa.Vec

/-- Block b is a row of c integers of the call's own; the first n are f 0, f 1, .. -/
def OwnI (w : World) (b c n : Nat) (f : Nat → Int) : Prop :=
  ∃ g : Nat → Value, w.rowIs b 3 c g ∧ n ≤ c ∧ ∀ i, i < n → g i = .int .i64 (f i)
theorem OwnI.lt {w : World} {b c n : Nat} {f : Nat → Int} (h : OwnI w b c n f) : b < w.heap.size := by obtain ⟨g, h, _⟩ := h; exact h.lt
theorem OwnI.cell {w : World} {b c n : Nat} {f : Nat → Int} (h : OwnI w b c n f) {i : Nat} (hi : i < n) : w.cell? ⟨b, i, none⟩ = some (.int .i64 (f i)) := by
  obtain ⟨g, h, hn, hg⟩ := h
  rw [h.cell (by omega), hg i hi]
theorem OwnI.frozen {w : World} {b c n : Nat} {f : Nat → Int} (h : OwnI w b c n f) (i : Nat) : w.frozen? ⟨b, i, none⟩ = false := by
  obtain ⟨g, h, _⟩ := h
  exact h.frozen i
theorem OwnI.of_block {w w' : World} {b c n : Nat} {f : Nat → Int} (h : OwnI w b c n f) (e : w'.heap[b]? = w.heap[b]?) : OwnI w' b c n f := by
  obtain ⟨g, h, hn, hg⟩ := h
  exact ⟨g, h.of_block e, hn, hg⟩
theorem OwnI.below {w w' : World} {b c n : Nat} {f : Nat → Int} (h : OwnI w b c n f) (hb : Below w.heap.size w w') : OwnI w' b c n f := h.of_block (hb.block b h.lt)
theorem OwnI.grown {w w' : World} {b c n g : Nat} {f : Nat → Int} (h : OwnI w b c n f) (hb : w.grownBy w' (some g)) (hne : b ≠ g) : OwnI w' b c n f :=
  h.of_block (hb.block b h.lt (fun e => hne (by injection e)))
theorem OwnI.congr {w : World} {b c n : Nat} {f f' : Nat → Int} (h : OwnI w b c n f) (e : ∀ i, i < n → f i = f' i) : OwnI w b c n f' := by
  obtain ⟨g, h, hn, hg⟩ := h
  exact ⟨g, h, hn, fun i hi => by rw [hg i hi, e i hi]⟩
theorem OwnI.set {w : World} {b c n : Nat} {f : Nat → Int} (h : OwnI w b c n f) (k : Nat) (v : Int) : OwnI (w.setCell ⟨b, k, none⟩ (.int .i64 v)) b c n (fun j => if j = k then v else f j) := by
  obtain ⟨g, h, hn, hg⟩ := h
  refine ⟨_, h.set k _, hn, fun i hi => ?_⟩
  by_cases e : i = k
  · simp [e]
  · simp [e, hg i hi]
theorem OwnI.rd {w : World} {b c : Nat} {zs : List Int} (h : OwnI w b c zs.length (fun i => zs.getD i 0)) : Rd w (some ⟨b, 0, none⟩) zs :=
  .inr ⟨b, 0, rfl, fun i hi => by rw [Nat.zero_add]; exact h.cell hi⟩
theorem Rd.below {w w' : World} {a : Option Addr} {zs : List Int} (h : Rd w a zs) (hb : Below w.heap.size w w') : Rd w' a zs := by
  rcases h with h | ⟨b, off, ha, hc⟩
  · exact .inl h
  · exact .inr ⟨b, off, ha, fun i hi => (hb.cell (World.block_lt_of_cell? w _ (hc i hi))).trans (hc i hi)⟩

/-- The value returned is a slice over a new block with just the numbers zs. -/
def NewInts (w : World) (zs : List Int) (e : Ending) (w' : World) : Prop :=
  ∃ b, e = .returned (.slice (some ⟨b, 0, none⟩) zs.length zs.length) ∧ w.heap.size ≤ b ∧ OwnI w' b zs.length zs.length (fun i => zs.getD i 0) ∧ Below w.heap.size w w'

theorem info_int : (Try.prog.info? 3).map (fun i => (i.zero, i.size, i.bytes)) = some (some (.int .i64 0), 1, 8) := by kernel_rfl

theorem toIntS (a : Option Addr) (c : Nat) (zs : List Int) (w : World) (hr : Rd w a zs) (hl : zs.length ≤ 1048576) :
    Calls Try.prog 36 #[.slice a zs.length c] w (NewInts w zs) := by
  rcases hr with rfl | ⟨b, off, rfl, hc⟩
  · have hmk : ∀ w : World, (Instr.makeSlice 46 (.int .i64 0) (.int .i64 0)).run Try.prog w = .ok (.slice (some ⟨w.heap.size, 0, none⟩) 0 0) (w.alloc (.cells (madeCells #[.int .i64 0] 0) 3)) :=
      fun w => run_make_row' (P := Try.prog) 46 3 (.int .i64 0) 8 Try.underlying46 info_int rfl .i64 .i64 0 (by omega) (by omega) w
    go_enter Try.func36, Try.ntmps36
    go_wp2
    go_rounds 1
    go_ret
    refine ⟨w.heap.size, rfl, Nat.le_refl _, ⟨fun _ => .int .i64 0, ?_, by simp, by simp⟩, (Below.refl _ _).alloc (Nat.le_refl _) _⟩
    have := World.rowIs_made w (.int .i64 0) 0 3
    simpa using this
  · have hmk := run_make_row' (P := Try.prog) 46 3 (.int .i64 0) 8 Try.underlying46 info_int rfl .i64 .i64 zs.length (by omega) (by omega)
    have HC := Lib.hid hc
    clear hc
    go_enter Try.func36, Try.ntmps36
    go_wp2
    clear hmk
    go_loopw [4] (fun i wr => ∃ k : Nat, k ≤ zs.length ∧ i = .int .i64 k ∧ OwnI wr w.heap.size zs.length zs.length (fun j => if j < k then zs.getD j 0 else 0) ∧ Below w.heap.size w wr) (fun i _ => zs.length - (intOf i).toNat)
    case atStart =>
      exact ⟨0, Nat.zero_le _, rfl, ⟨fun _ => .int .i64 0, World.rowIs_made w (.int .i64 0) zs.length 3, Nat.le_refl _, fun i _ => by simp⟩, (Below.refl _ _).alloc (Nat.le_refl _) _⟩
    case round =>
      obtain ⟨k, hk, rfl, hown, hnx⟩ := hrel
      by_cases hlt : k < zs.length
      · obtain ⟨z, hz⟩ : ∃ z, z = zs.getD k 0 := ⟨_, rfl⟩
        have lb : b < w.heap.size := World.block_lt_of_cell? w _ (HC.out k hlt)
        have hcz : wr.cell? ⟨b, off + k, none⟩ = some (.int .i64 z) := by rw [hz, hnx.cell (by exact lb)]; exact HC.out k hlt
        have hco := hown.cell hlt
        have hfo := hown.frozen k
        have HZ := Lib.hid hz
        clear hz
        go_wp2
        go_roundw
        case rel =>
          refine ⟨k + 1, by omega, by go_num, (hown.set k z).congr fun i hi => ?_, hnx.setCell (by simp) _⟩
          by_cases e : i = k
          · subst e; simp [HZ.out]
          · by_cases e2 : i < k
            · simp [e, e2, Nat.lt_succ_of_lt e2]
            · have : ¬ i < k + 1 := by omega
              simp [e, e2, this]
        case measure => simp [intOf]; omega
      · obtain rfl : k = zs.length := by omega
        go_wp2
        go_ret
        exact ⟨w.heap.size, rfl, Nat.le_refl _, hown.congr fun i hi => by simp [hi], hnx⟩

theorem take_succ_eq {xs ys : List Int} {k : Nat} {x y : Int} (hx : x = xs.getD k 0) (hy : y = ys.getD k 0) (h1 : k < xs.length) (h2 : k < ys.length) (h : xs.take k = ys.take k) (e : x = y) : xs.take (k + 1) = ys.take (k + 1) := by
  rw [List.take_succ_eq_append_getElem h1, List.take_succ_eq_append_getElem h2, h]
  rw [List.getD_eq_getElem?_getD, List.getElem?_eq_getElem h1] at hx
  rw [List.getD_eq_getElem?_getD, List.getElem?_eq_getElem h2] at hy
  simp at hx hy
  rw [← hx, ← hy, e]

theorem eqIntS (a a' : Option Addr) (c c' : Nat) (xs ys : List Int) (w : World) (hx : Rd w a xs) (hy : Rd w a' ys) (hl : xs.length ≤ 1048576) (hl' : ys.length ≤ 1048576) :
    Calls Try.prog 32 #[.slice a xs.length c, .slice a' ys.length c'] w fun e w' => e = .returned (.bool (decide (xs = ys))) ∧ Below w.heap.size w w' := by
  by_cases hlen : xs.length = ys.length
  · rcases hx with rfl | ⟨b, off, rfl, hc⟩
    · obtain rfl : ys = [] := List.eq_nil_of_length_eq_zero (by simpa using hlen.symm)
      go_enter Try.func32, Try.ntmps32
      go_wp2
      go_rounds 1
      go_ret
      exact ⟨ret_bool (by simp), Below.refl _ _⟩
    · rcases hy with rfl | ⟨b', off', rfl, hc'⟩
      · obtain rfl : xs = [] := List.eq_nil_of_length_eq_zero (by simpa using hlen)
        go_enter Try.func32, Try.ntmps32
        go_wp2
        go_rounds 1
        go_ret
        exact ⟨ret_bool (by simp), Below.refl _ _⟩
      · obtain ⟨n, hn⟩ : ∃ n, n = xs.length := ⟨_, rfl⟩
        rw [← hlen, ← hn]
        rw [← hn] at hc hlen hl
        rw [← hlen] at hc'
        have HC := Lib.hid hc
        have HC' := Lib.hid hc'
        have HN := Lib.hid hn
        have HL := Lib.hid hlen
        clear hc hc' hn hlen hl'
        go_enter Try.func32, Try.ntmps32
        go_wp2
        go_loopw [5] (fun i wr => ∃ k : Nat, k ≤ n ∧ i = .int .i64 k ∧ Hid (xs.take k = ys.take k) ∧ Below w.heap.size w wr) (fun i _ => n - (intOf i).toNat)
        case atStart => exact ⟨0, Nat.zero_le _, rfl, by simp [Hid], Below.refl _ _⟩
        case round =>
          obtain ⟨k, hk, rfl, htk, hnx⟩ := hrel
          by_cases hlt : k < n
          · obtain ⟨x, hx⟩ : ∃ x, x = xs.getD k 0 := ⟨_, rfl⟩
            obtain ⟨y, hy⟩ : ∃ y, y = ys.getD k 0 := ⟨_, rfl⟩
            have lb : b < w.heap.size := World.block_lt_of_cell? w _ (HC.out k hlt)
            have lb' : b' < w.heap.size := World.block_lt_of_cell? w _ (HC'.out k hlt)
            have hcx : wr.cell? ⟨b, off + k, none⟩ = some (.int .i64 x) := by rw [hx, hnx.cell (by exact lb)]; exact HC.out k hlt
            have hcy : wr.cell? ⟨b', off' + k, none⟩ = some (.int .i64 y) := by rw [hy, hnx.cell (by exact lb')]; exact HC'.out k hlt
            have HX := Lib.hid hx
            have HY := Lib.hid hy
            clear hx hy
            have hk0 : (0 : Int) ≤ (k : Int) := Int.natCast_nonneg _
            have hk1 : (k : Int) < (n : Int) := by omega
            by_cases hxy : x = y
            · have hne : (x != y) = false := by simp [hxy]
              have HE := Lib.hid hxy
              clear hxy
              go_wp2
              go_quiet (fail)
              go_wp2
              go_roundw
              case rel => exact ⟨k + 1, by omega, by go_num, take_succ_eq HX.out HY.out (by have := HN.out; omega) (by have := HN.out; have := HL.out; omega) htk.out HE.out, ⟨hnx.os, hnx.tape, hnx.output, hnx.size, hnx.block⟩⟩
              case measure => simp [intOf]; omega
            · have hne : (x != y) = true := by simp [hxy]
              go_wp2
              go_quiet (fail)
              go_wp2
              go_ret
              refine ⟨ret_bool ?_, ⟨hnx.os, hnx.tape, hnx.output, hnx.size, hnx.block⟩⟩
              rw [eq_comm, decide_eq_false_iff_not]
              rintro rfl
              exact hxy (HX.out.trans HY.out.symm)
          · obtain rfl : k = n := by omega
            go_wp2
            go_ret
            refine ⟨ret_bool ?_, hnx⟩
            have h := htk.out
            rw [List.take_of_length_le (by have := HN.out; omega), List.take_of_length_le (by have := HN.out; have := HL.out; omega)] at h
            simp [h]
  · have hne : ((xs.length : Int) == ys.length) = false := by simp; omega
    have hd : decide (xs = ys) = false := by rw [decide_eq_false_iff_not]; rintro rfl; exact hlen rfl
    rw [hd]
    clear hd
    go_enter Try.func32, Try.ntmps32
    go_wp2
    go_ret
    exact ⟨rfl, Below.refl _ _⟩

end Go.Proofs.Ytkkeaimoplkliaa.Row
