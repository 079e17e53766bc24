/-
  What the exact laws do with slices of operations: szOpS counts, toOpS copies one into new memory. For slices of operations that read as a list of at most 2^20.
-/
import Derived.Test.YtkkeaimoplkliaaLgA
import Derived.BigQuiet
import Derived.Deep.QuietTactic
namespace Go.Proofs.Ytkkeaimoplkliaa.LgB
open Go.RowKit Go.Proofs.Ytkkeaimoplkliaa.Base Go.Proofs.Ytkkeaimoplkliaa.St Go.Proofs.Ytkkeaimoplkliaa.StB Go.Proofs.Ytkkeaimoplkliaa.OpA Go.Proofs.Ytkkeaimoplkliaa.OpW Go.Proofs.Ytkkeaimoplkliaa.OpB Go.Proofs.Ytkkeaimoplkliaa.OpT Go.Proofs.Ytkkeaimoplkliaa.LgA
set_option linter.unusedVariables false

theorem size_lop : (Try.prog.info? 25).map (·.size) = some 12 := by kernel_rfl
theorem size_iop : (Try.prog.info? 30).map (·.size) = some 12 := by kernel_rfl
/-- A whole operation is read out of a slice: of the law's type, of the program's. -/
theorem loadL {ops : Array Oper} {rest : List Oper} {op : Oper} {a : Act} {w : World} {Q : Exit → Act → World → Prop} (hgd : op.guard = none) (x : Operand) (ho : op.op = .load 25 x) {b o : Nat} {y : OpV}
    (hx : a.eval x = .pointer (some ⟨b, o, none⟩)) (h : w.rangeAt b o (opL y)) (k : wpList Try.prog ops Q rest (a.put op.dst (.agg #[.int .i64 y.i, .int .i64 y.j, .int .i64 y.k, .int .i64 y.ts, .int .i64 y.ta, .int .i64 y.fs, .int .i64 y.fa, .int .i64 y.ns, .int .i64 y.na, .int .i64 y.v, .bool y.en, .string y.tx])) w) : wpList Try.prog ops Q (op :: rest) a w :=
  wpList_load_mid hgd 25 x ho b o hx (opL y) _ h Try.underlying25 rfl size_lop k
theorem loadI {ops : Array Oper} {rest : List Oper} {op : Oper} {a : Act} {w : World} {Q : Exit → Act → World → Prop} (hgd : op.guard = none) (x : Operand) (ho : op.op = .load 30 x) {b o : Nat} {y : OpV}
    (hx : a.eval x = .pointer (some ⟨b, o, none⟩)) (h : w.rangeAt b o (opL y)) (k : wpList Try.prog ops Q rest (a.put op.dst (.agg #[.int .i64 y.i, .int .i64 y.j, .int .i64 y.k, .int .i64 y.ts, .int .i64 y.ta, .int .i64 y.fs, .int .i64 y.fa, .int .i64 y.ns, .int .i64 y.na, .int .i64 y.v, .bool y.en, .string y.tx])) w) : wpList Try.prog ops Q (op :: rest) a w :=
  wpList_load_mid hgd 30 x ho b o hx (opL y) _ h Try.underlying30 rfl size_iop k

/-- A whole operation goes into a slice. -/
theorem storeI {ops : Array Oper} {rest : List Oper} {op : Oper} {a : Act} {w : World} {Q : Exit → Act → World → Prop} (hgd : op.guard = none) (x y : Operand) (ho : op.op = .store 30 x y) {b o : Nat} {v : OpV}
    (hx : a.eval x = .pointer (some ⟨b, o, none⟩)) (hy : a.eval y = .agg #[.int .i64 v.i, .int .i64 v.j, .int .i64 v.k, .int .i64 v.ts, .int .i64 v.ta, .int .i64 v.fs, .int .i64 v.fa, .int .i64 v.ns, .int .i64 v.na, .int .i64 v.v, .bool v.en, .string v.tx]) (h : w.there b o 12) (k : wpList Try.prog ops Q rest (a.put op.dst undef) (w.setCells b o (opL v))) : wpList Try.prog ops Q (op :: rest) a w :=
  wpList_store_mid hgd 30 x y ho b o _ hx hy h size_iop (by simp [Value.oneCell']) k

/-- A whole operation is read in a drawn region that only reads. -/
theorem quietI {ops : Array Oper} {rest : List Oper} {op : Oper} {a : Act} {C : World → Prop} {Q : Act → Prop} (hgd : op.guard = none) (x : Operand) (ho : op.op = .load 30 x) {b o : Nat} {y : OpV}
    (hx : a.eval x = .pointer (some ⟨b, o, none⟩)) (h : ∀ W, C W → W.rangeAt b o (opL y)) (k : wpQuiet Try.prog ops C Q rest (a.put op.dst (.agg #[.int .i64 y.i, .int .i64 y.j, .int .i64 y.k, .int .i64 y.ts, .int .i64 y.ta, .int .i64 y.fs, .int .i64 y.fa, .int .i64 y.ns, .int .i64 y.na, .int .i64 y.v, .bool y.en, .string y.tx]))) : wpQuiet Try.prog ops C Q (op :: rest) a :=
  wpQuiet_step fun K hK => by
    rw [if_pos (by simp [Region.wanted, hgd])]
    exact ⟨_, fun W hW => by
    have hr := run_loadVar_mid (P := Try.prog) W b o 30 (opL y) _ (h W hW) Try.underlying30 rfl size_iop
    unfold Oper.quietAt execOp
    simp only [ho, hx, Instr.loadAt, Instr.sureAddr, Sem.run_bind, Sem.run_pure, Result.andThen_ok, hr]
    exact ⟨rfl, rfl⟩, hK _ k⟩

/-- What szOpS gives: the room that is left, or -1. -/
def SzOk (n : Nat) (left : Int) (w : World) (e : Ending) (w' : World) : Prop :=
  (e = .returned (.int .i64 (-1)) ∨ ∃ r : Int, 0 ≤ r ∧ r ≤ left ∧ (n : Int) ≤ left ∧ e = .returned (.int .i64 r)) ∧ Below w.heap.size w w'

theorem szV_cases (o : OpV) (left : Int) (h : 0 ≤ left) : szV o left = -1 ∨ (0 ≤ szV o left ∧ szV o left ≤ left) := by
  unfold szV
  by_cases h1 : left - o.tx.size < 0
  · left; rw [if_pos h1]
  · right; rw [if_neg h1]; omega

set_option maxRecDepth 100000 in
theorem szOpS (a : Option Addr) (c : Nat) (os : List OpV) (left : Int) (w : World) (hr : RdO w a os) (hm : os.length ≤ maxLen) (ht : ∀ k, k < os.length → (os.getD k zop).tx.size ≤ maxLen) (hl : 0 ≤ left ∧ left ≤ 1048576) :
    Calls Try.prog 19 #[.slice a os.length c, .int .i64 left] w (SzOk os.length left w) := by
  obtain ⟨hl0, hl1⟩ := hl
  unfold maxLen at hm
  have HT := Lib.hid ht
  clear ht
  rcases hr with rfl | ⟨b, off, rfl, hc⟩
  · go_enter Try.func19, Try.ntmps19
    go_wp2
    go_rounds 1
    go_ret
    exact ⟨.inr ⟨left, hl0, Int.le_refl _, by simpa using hl0, ret_int (by simp)⟩, Below.refl _ _⟩
  · have HC := Lib.hid hc
    clear hc
    by_cases h0 : left - os.length < 0
    · go_enter Try.func19, Try.ntmps19
      go_wp2
      go_ret
      exact ⟨.inl rfl, Below.refl _ _⟩
    · have hn : os.length ≤ 1048576 := by omega
      clear hm
      go_enter Try.func19, Try.ntmps19
      go_wp2

      go_loopw [1, 5] (fun l i wr => ∃ (k : Nat) (r : Int), k ≤ os.length ∧ i = .int .i64 k ∧ 0 ≤ r ∧ r ≤ left ∧ l = .int .i64 r ∧ Below w.heap.size w wr) (fun _ i _ => os.length - (intOf i).toNat)
      case atStart => exact ⟨0, left - os.length, Nat.zero_le _, rfl, by omega, by omega, rfl, Below.refl _ _⟩
      case round =>
        obtain ⟨k, r, hk, rfl, hr0, hr1, rfl, hnx⟩ := hrel
        by_cases hlt : k < os.length
        · obtain ⟨o, ho⟩ : ∃ o, o = os.getD k zop := ⟨_, rfl⟩
          have hrg : wr.rangeAt b (off + k * 12) (opL o) := by rw [ho]; exact rangeAt_below (HC.out k hlt) hnx (rangeAt_lt (HC.out k hlt))
          have HR := Lib.hid hrg
          clear hrg
          have hs := HT.out k hlt
          rw [← ho] at hs
          have HS := Lib.hid hs
          clear hs
          have HO := Lib.hid ho
          clear ho
          rcases szV_cases o r hr0 with hv | ⟨hv0, hv1⟩
          · have HZ := Lib.hid (fun w => szOp o r w HS.out ⟨hr0, by omega⟩)
            rw [hv] at HZ
            clear hv
            go_wp2_with (refine loadL rfl _ rfl rfl HR.out ?_)
            refine (HZ.out _).mono ?_
            rintro e w1 ⟨rfl, hb1⟩
            go_wp2
            go_ret
            exact ⟨.inl rfl, hnx.trans (hb1.mono hnx.size)⟩
          · have HZ := Lib.hid (fun w => szOp o r w HS.out ⟨hr0, by omega⟩)
            generalize szV o r = r' at HZ hv0 hv1
            go_wp2_with (refine loadL rfl _ rfl rfl HR.out ?_)
            refine (HZ.out _).mono ?_
            rintro e w1 ⟨rfl, hb1⟩
            go_wp2
            go_roundw
            case rel => exact ⟨k + 1, r', by omega, by go_num, hv0, by omega, rfl, hnx.trans (hb1.mono hnx.size)⟩
            case measure => simp [intOf]; omega
        · obtain rfl : k = os.length := by omega
          go_wp2
          go_ret
          exact ⟨.inr ⟨r, hr0, hr1, by omega, rfl⟩, hnx⟩

end Go.Proofs.Ytkkeaimoplkliaa.LgB
