/-
  markOpS of the exact laws: it writes marks into a row of operations of the call's own. For rows of at most 2^20 operations and marks up to 2^39.
-/
import Derived.Test.YtkkeaimoplkliaaLgM
import Derived.Outline
namespace Go.Proofs.Ytkkeaimoplkliaa.LgN
open Go.RowKit Go.Proofs.Ytkkeaimoplkliaa.Base Go.Proofs.Ytkkeaimoplkliaa.St Go.Proofs.Ytkkeaimoplkliaa.StB Go.Proofs.Ytkkeaimoplkliaa.OpA Go.Proofs.Ytkkeaimoplkliaa.OpB Go.Proofs.Ytkkeaimoplkliaa.LgA Go.Proofs.Ytkkeaimoplkliaa.LgB Go.Proofs.Ytkkeaimoplkliaa.LgC Go.Proofs.Ytkkeaimoplkliaa.LgM
set_option linter.unusedVariables false

def upd (g : Nat → Value) (i : Nat) (v : Value) : Nat → Value := fun j => if j = i then v else g j
/-- Block b is a row of N cells g 0, g 1, ..; all else that was in w0 is as it was. -/
def MarkSt (w0 w : World) (b N : Nat) (g : Nat → Value) : Prop := w.rowIs b 30 N g ∧ w0.grownBy w (some b)
theorem grownBy_trans {a b c : World} {r : Option Nat} (h : a.grownBy b r) (k : b.grownBy c r) : a.grownBy c r :=
  ⟨k.os.trans h.os, k.tape.trans h.tape, k.output.trans h.output, Nat.le_trans h.size k.size, fun i hi hne => (k.block i (Nat.lt_of_lt_of_le hi h.size) hne).trans (h.block i hi hne)⟩
theorem below_grownBy {w w' : World} {r : Option Nat} (h : Below w.heap.size w w') : w.grownBy w' r := ⟨h.os, h.tape, h.output, h.size, fun k hk _ => h.block k hk⟩
theorem MarkSt.below {w0 w w' : World} {b N : Nat} {g : Nat → Value} (h : MarkSt w0 w b N g) (hb : Below w.heap.size w w') : MarkSt w0 w' b N g :=
  ⟨h.1.of_block (hb.block b h.1.lt), grownBy_trans h.2 (below_grownBy hb)⟩
theorem grownBy_setCell (w : World) (b i : Nat) (v : Value) : w.grownBy (w.setCell ⟨b, i, none⟩ v) (some b) :=
  ⟨rfl, rfl, rfl, by simp [World.setCell], fun k _ hne => Below.heap_setCell _ _ _ _ (fun e => hne (by rw [e]))⟩
theorem MarkSt.set {w0 w : World} {b N : Nat} {g : Nat → Value} (h : MarkSt w0 w b N g) (i : Nat) (v : Value) : MarkSt w0 (w.setCell ⟨b, i, none⟩ v) b N (upd g i v) :=
  ⟨h.1.set i v, grownBy_trans h.2 (grownBy_setCell w b i v)⟩

theorem size1_int : (Try.prog.info? 3).map (·.size) = some 1 := by kernel_rfl
theorem size1_bool : (Try.prog.info? 4).map (·.size) = some 1 := by kernel_rfl
theorem size1_string : (Try.prog.info? 9).map (·.size) = some 1 := by kernel_rfl
theorem run_storeVar_cell {P : Program} (w : World) (b o : Nat) (ty : TypeId) (v : Value) (h1 : v.oneCell' = true) (hc : (w.cell? ⟨b, o, none⟩).isSome = true) (hf : w.frozen? ⟨b, o, none⟩ = false) (hi : (P.info? ty).map (·.size) = some 1) :
    (storeVar ty ⟨b, o, none⟩ v).run P w = .ok () (w.setCell ⟨b, o, none⟩ v) := by
  have := run_storeCells_cells (P := P) b o [v] 0 w (fun j hj => by have : j = 0 := by simpa using hj
                                                                    subst this; exact hc) (fun j hj => by have : j = 0 := by simpa using hj
                                                                                                          subst this; exact hf) (fun x hx => by simp at hx; subst hx; exact h1)
  have hcl : v.cells = #[v] := by cases v <;> first | rfl | cases h1
  cases hq : P.info? ty with
  | none => simp [hq] at hi
  | some i =>
    have hs : i.size = 1 := by simpa [hq] using hi
    simp only [Nat.add_zero] at this
    simp [storeVar, sizeOf, typeInfo, hq, hcl, hs, this, World.setCells]
/-- A store of one cell into the row. -/
theorem store1 {ops : Array Oper} {rest : List Oper} {op : Oper} {a : Act} {w0 w : World} {Q : Exit → Act → World → Prop} (hgd : op.guard = none) (T : TypeId) (x y : Operand) (ho : op.op = .store T x y)
    {b i N : Nat} {v : Value} {g : Nat → Value} (hx : a.eval x = .pointer (some ⟨b, i, none⟩)) (hy : a.eval y = v) (h1 : v.oneCell' = true) (hsz : (Try.prog.info? T).map (·.size) = some 1) (hi : i < N) (h : MarkSt w0 w b N g)
    (k : ∀ w', MarkSt w0 w' b N (upd g i v) → wpList Try.prog ops Q rest (a.put op.dst undef) w') : wpList Try.prog ops Q (op :: rest) a w :=
  wpList_plain hgd fun _ hK => by
    unfold Oper.wp execOp
    simp only [ho, hx, hy, Instr.storeAt, Instr.sureAddr, Sem.run_bind, Sem.run_pure, Result.andThen_ok, run_storeVar_cell (P := Try.prog) w b i T v h1 (by rw [h.1.cell hi]; rfl) (h.1.frozen i) hsz]
    exact hK _ _ (k _ (h.set i v))

/-- The operation that bears the marks from q on. -/
def mk (q : Nat) : OpV := ⟨q, q + 1, q + 2, q + 3, q + 4, q + 5, q + 6, q + 7, q + 8, q + 9, (((q : Int) + 10) % 3 == 0), mtx (q + 11)⟩
/-- Behind the twelve stores of a round the operation bears its marks. -/
theorem mark_fin {w0 w : World} {b c n j q : Nat} {f : Nat → OpV} {g : Nat → Value} {v0 v1 v2 v3 v4 v5 v6 v7 v8 v9 v10 v11 : Value} (hj : j < n) (hnc : n ≤ c) (hg : ∀ k, k < n → ∀ i, i < 12 → g (k * 12 + i) = (opL (f k)).getD i undef)
    (P : MarkSt w0 w b (c * 12) (upd (upd (upd (upd (upd (upd (upd (upd (upd (upd (upd (upd g (j * 12) v0) (j * 12 + 1) v1) (j * 12 + 2) v2) (j * 12 + 3) v3) (j * 12 + 4) v4) (j * 12 + 5) v5) (j * 12 + 6) v6) (j * 12 + 7) v7) (j * 12 + 8) v8) (j * 12 + 9) v9) (j * 12 + 10) v10) (j * 12 + 11) v11))
    (e0 : v0 = .int .i64 (q : Int)) (e1 : v1 = .int .i64 ((q : Int) + 1)) (e2 : v2 = .int .i64 ((q : Int) + 2)) (e3 : v3 = .int .i64 ((q : Int) + 3)) (e4 : v4 = .int .i64 ((q : Int) + 4)) (e5 : v5 = .int .i64 ((q : Int) + 5)) (e6 : v6 = .int .i64 ((q : Int) + 6)) (e7 : v7 = .int .i64 ((q : Int) + 7)) (e8 : v8 = .int .i64 ((q : Int) + 8)) (e9 : v9 = .int .i64 ((q : Int) + 9)) (e10 : v10 = .bool (((q : Int) + 10) % 3 == 0)) (e11 : v11 = .string (mtx (q + 11))) :
    OwnO w b c n (fun m => if m = j then mk q else f m) ∧ w0.grownBy w (some b) := by
  refine ⟨⟨_, P.1, hnc, fun k hk i hi => ?_⟩, P.2⟩
  show _ = (opL (if k = j then mk q else f k)).getD i undef
  by_cases e : k = j
  · subst e
    rw [if_pos rfl]
    obtain rfl | rfl | rfl | rfl | rfl | rfl | rfl | rfl | rfl | rfl | rfl | rfl : i = 0 ∨ i = 1 ∨ i = 2 ∨ i = 3 ∨ i = 4 ∨ i = 5 ∨ i = 6 ∨ i = 7 ∨ i = 8 ∨ i = 9 ∨ i = 10 ∨ i = 11 := by omega
    all_goals simp [upd, opL, mk, e0, e1, e2, e3, e4, e5, e6, e7, e8, e9, e10, e11]
  · rw [if_neg e, ← hg k hk i hi]
    have h : ∀ t, t < 12 → ¬ (k * 12 + i = j * 12 + t) := fun t ht => by omega
    have h0 : ¬ (k * 12 + i = j * 12) := by omega
    simp only [upd, h0, h 1 (by omega), h 2 (by omega), h 3 (by omega), h 4 (by omega), h 5 (by omega), h 6 (by omega), h 7 (by omega), h 8 (by omega), h 9 (by omega), h 10 (by omega), h 11 (by omega), if_false]

theorem markText' (x : Int) (n : Nat) (hx : x = n) (h0 : 1 ≤ n) (h1 : n ≤ 1099511627776) (w : World) :
    Calls Try.prog 64 #[.int .i64 x] w fun e w' => e = .returned (.string (mtx n)) ∧ Below w.heap.size w w' := hx ▸ markText n h0 h1 w

set_option maxRecDepth 1000000 in
set_option maxHeartbeats 1000000 in
theorem markOpS (b c n : Nat) (f : Nat → OpV) (q0 : Nat) (w : World) (hown : OwnO w b c n f) (hn : n ≤ 1048576) (hq0 : 1 ≤ q0) (hq : q0 ≤ 549755813888) :
    Calls Try.prog 26 #[.slice (some ⟨b, 0, none⟩) n c, .int .i64 q0] w fun e w' => e = .returned (.int .i64 ((q0 + 12 * n : Nat) : Int)) ∧ OwnO w' b c n (fun i => mk (q0 + 12 * i)) ∧ w.grownBy w' (some b) := by
  go_enter Try.func26, Try.ntmps26
  go_wp2
  go_loopw [1, 5] (fun s i wr => ∃ (j q : Nat), j ≤ n ∧ i = .int .i64 j ∧ Hid (q = q0 + 12 * j) ∧ s = .int .i64 q ∧ OwnO wr b c n (fun m => if m < j then mk (q0 + 12 * m) else f m) ∧ w.grownBy wr (some b)) (fun _ i _ => n - (intOf i).toNat)
  case atStart => exact ⟨0, q0, Nat.zero_le _, rfl, rfl, rfl, hown.congr fun i hi => by simp, World.grownBy.refl _ _⟩
  case round =>
    obtain ⟨j, q, hj, rfl, hqe, rfl, ho, hg⟩ := hrel
    by_cases hlt : j < n
    · have hqb : 1 ≤ q ∧ q ≤ 549768396800 := by have := hqe.out; omega
      obtain ⟨hq1, hq2⟩ := hqb
      obtain ⟨g, hrow, hnc, hgv⟩ := ho
      have hjc : j * 12 + 11 < c * 12 := by omega
      have P0 : MarkSt w wr b (c * 12) g := ⟨hrow, hg⟩
      have HG := Lib.hid hgv
      clear hgv hrow hg hown hq
      go_wp2_with (first
        | (with_reducible refine store1 (b := b) (i := j * 12) rfl 3 _ _ rfl rfl rfl rfl size1_int (by omega) P0 ?_; intro w1 P1)
        | (with_reducible refine store1 (b := b) (i := j * 12 + 1) rfl 3 _ _ rfl rfl rfl rfl size1_int (by omega) P1 ?_; intro w2 P2)
        | (with_reducible refine store1 (b := b) (i := j * 12 + 2) rfl 3 _ _ rfl rfl rfl rfl size1_int (by omega) P2 ?_; intro w3 P3)
        | (with_reducible refine store1 (b := b) (i := j * 12 + 3) rfl 3 _ _ rfl rfl rfl rfl size1_int (by omega) P3 ?_; intro w4 P4)
        | (with_reducible refine store1 (b := b) (i := j * 12 + 4) rfl 3 _ _ rfl rfl rfl rfl size1_int (by omega) P4 ?_; intro w5 P5)
        | (with_reducible refine store1 (b := b) (i := j * 12 + 5) rfl 3 _ _ rfl rfl rfl rfl size1_int (by omega) P5 ?_; intro w6 P6)
        | (with_reducible refine store1 (b := b) (i := j * 12 + 6) rfl 3 _ _ rfl rfl rfl rfl size1_int (by omega) P6 ?_; intro w7 P7)
        | (with_reducible refine store1 (b := b) (i := j * 12 + 7) rfl 3 _ _ rfl rfl rfl rfl size1_int (by omega) P7 ?_; intro w8 P8)
        | (with_reducible refine store1 (b := b) (i := j * 12 + 8) rfl 3 _ _ rfl rfl rfl rfl size1_int (by omega) P8 ?_; intro w9 P9)
        | (with_reducible refine store1 (b := b) (i := j * 12 + 9) rfl 3 _ _ rfl rfl rfl rfl size1_int (by omega) P9 ?_; intro w10 P10)
        | (with_reducible refine store1 (b := b) (i := j * 12 + 10) rfl 4 _ _ rfl rfl rfl rfl size1_bool (by omega) P10 ?_; intro w11 PX)
        | (with_reducible refine store1 (b := b) (i := j * 12 + 11) rfl 9 _ _ rfl rfl rfl rfl size1_string (by omega) P11 ?_; intro w12 P12)
        | (go_at_call 64; refine (markText' _ (q + 11) (by omega) (by omega) (by omega) _).mono ?_; rintro e wm ⟨rfl, hbm⟩; have P11 := PX.below hbm))
      go_roundw
      case rel =>
        obtain ⟨h1, h2⟩ := mark_fin hlt hnc HG.out P12 (by first | rfl | go_num) (by first | rfl | go_num) (by first | rfl | go_num) (by first | rfl | go_num) (by first | rfl | go_num) (by first | rfl | go_num) (by first | rfl | go_num) (by first | rfl | go_num) (by first | rfl | go_num) (by first | rfl | go_num) (by first | rfl | (congr 1)) rfl
        refine ⟨j + 1, q + 12, by omega, by go_num, by have h := hqe.out; show q + 12 = q0 + 12 * (j + 1); omega, by first | rfl | go_num, h1.congr fun m hm => ?_, h2⟩
        by_cases e : m = j
        · rw [if_pos e, if_pos (by omega), e, hqe.out]
        · rw [if_neg e]
          by_cases e2 : m < j
          · rw [if_pos e2, if_pos (by omega)]
          · rw [if_neg e2, if_neg (by omega)]
      case measure => simp [intOf]; omega
    · obtain rfl : j = n := by omega
      go_wp2
      go_ret
      exact ⟨ret_int (by have h := hqe.out; omega), ho.congr fun i hi => by simp [hi], hg⟩


end Go.Proofs.Ytkkeaimoplkliaa.LgN
