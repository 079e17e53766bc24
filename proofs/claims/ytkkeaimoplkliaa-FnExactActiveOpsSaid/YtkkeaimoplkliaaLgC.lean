/-
  What the exact laws do with slices of operations: toOpS copies one into new memory. For slices of operations that read as a list of at most 2^20.
-/
import Derived.Test.YtkkeaimoplkliaaLgB
import Derived.Outline
namespace Go.Proofs.Ytkkeaimoplkliaa.LgC
open Go.RowKit Go.Proofs.Ytkkeaimoplkliaa.Base Go.Proofs.Ytkkeaimoplkliaa.St Go.Proofs.Ytkkeaimoplkliaa.StB Go.Proofs.Ytkkeaimoplkliaa.OpA Go.Proofs.Ytkkeaimoplkliaa.OpW Go.Proofs.Ytkkeaimoplkliaa.OpB Go.Proofs.Ytkkeaimoplkliaa.OpT Go.Proofs.Ytkkeaimoplkliaa.LgA Go.Proofs.Ytkkeaimoplkliaa.LgB
set_option linter.unusedVariables false

theorem info_iop : (Try.prog.info? 30).map (fun i => (i.zero, i.size, i.bytes)) = some (some (.agg #[.int .i64 zop.i, .int .i64 zop.j, .int .i64 zop.k, .int .i64 zop.ts, .int .i64 zop.ta, .int .i64 zop.fs, .int .i64 zop.fa, .int .i64 zop.ns, .int .i64 zop.na, .int .i64 zop.v, .bool zop.en, .string zop.tx]), 12, 104) := by kernel_rfl

/-- The value returned is a slice over a new block with just the operations os. -/
def NewOps (w : World) (os : List OpV) (e : Ending) (w' : World) : Prop :=
  ∃ b, e = .returned (.slice (some ⟨b, 0, none⟩) os.length os.length) ∧ w.heap.size ≤ b ∧ OwnO w' b os.length os.length (fun i => os.getD i zop) ∧ Below w.heap.size w w'

theorem made_ops (w : World) (n : Nat) : OwnO (w.alloc (.cells (madeCells #[.int .i64 0, .int .i64 0, .int .i64 0, .int .i64 0, .int .i64 0, .int .i64 0, .int .i64 0, .int .i64 0, .int .i64 0, .int .i64 0, .bool false, .string ByteArray.empty] (n * 12)) 30)) w.heap.size n n (fun _ => zop) := by
  refine ⟨fun i => (opL zop).getD (i % 12) undef, ⟨_, heap_alloc_new w _, size_madeCells _ _, fun i hi => ?_⟩, Nat.le_refl _, fun k hk j hj => ?_⟩
  · have h12 : i % 12 < 12 := Nat.mod_lt _ (by omega)
    simp only [madeCells, Array.getElem?_map, Array.getElem?_range, hi, if_true, Option.map_some]
    congr 1
    show (#[Value.int .i64 0, .int .i64 0, .int .i64 0, .int .i64 0, .int .i64 0, .int .i64 0, .int .i64 0, .int .i64 0, .int .i64 0, .int .i64 0, .bool false, .string ByteArray.empty] : Array Value)[i % 12]! = _
    generalize i % 12 = r at h12
    obtain rfl | rfl | rfl | rfl | rfl | rfl | rfl | rfl | rfl | rfl | rfl | rfl : r = 0 ∨ r = 1 ∨ r = 2 ∨ r = 3 ∨ r = 4 ∨ r = 5 ∨ r = 6 ∨ r = 7 ∨ r = 8 ∨ r = 9 ∨ r = 10 ∨ r = 11 := by omega
    all_goals rfl
  · show (opL zop).getD ((k * 12 + j) % 12) undef = _
    rw [show (k * 12 + j) % 12 = j by omega]

theorem run_make_ops (n : Nat) (h : n ≤ 1048576) (w : World) :
    (Instr.makeSlice 36 (.int .i64 (n : Int)) (.int .i64 (n : Int))).run Try.prog w = .ok (.slice (some ⟨w.heap.size, 0, none⟩) n n) (w.alloc (.cells (madeCells #[.int .i64 0, .int .i64 0, .int .i64 0, .int .i64 0, .int .i64 0, .int .i64 0, .int .i64 0, .int .i64 0, .int .i64 0, .int .i64 0, .bool false, .string ByteArray.empty] (n * 12)) 30)) := by
  obtain ⟨i, hi, hz, hs, hb⟩ := info_parts info_iop
  have := run_make (P := Try.prog) w 36 30 i _ Try.underlying36 hi hz .i64 .i64 n n (by omega) (Int.le_refl _) (by rw [hb]; omega) (by omega)
  rw [hs] at this
  simpa [zop, Value.cells] using this

set_option maxRecDepth 100000 in
theorem toOpS (a : Option Addr) (c : Nat) (os : List OpV) (w : World) (hr : RdO w a os) (hl : os.length ≤ 1048576) :
    Calls Try.prog 21 #[.slice a os.length c] w (NewOps w os) := by
  have hmk := run_make_ops os.length hl
  rcases hr with rfl | ⟨b, off, rfl, hc⟩
  · simp only [List.length_nil, Int.natCast_zero] at hmk ⊢
    go_enter Try.func21, Try.ntmps21
    go_wp2
    go_rounds 1
    go_ret
    exact ⟨w.heap.size, rfl, Nat.le_refl _, (made_ops w 0).congr fun k hk => by omega, (Below.refl _ _).alloc (Nat.le_refl _) _⟩
  · have HC := Lib.hid hc
    clear hc
    go_enter Try.func21, Try.ntmps21
    go_wp2
    clear hmk
    go_loopw [4] (fun i wr => ∃ k : Nat, k ≤ os.length ∧ i = .int .i64 k ∧ OwnO wr w.heap.size os.length os.length (fun j => if j < k then os.getD j zop else zop) ∧ Below w.heap.size w wr) (fun i _ => os.length - (intOf i).toNat)
    case atStart =>
      exact ⟨0, Nat.zero_le _, rfl, (made_ops w os.length).congr fun k hk => by simp, (Below.refl _ _).alloc (Nat.le_refl _) _⟩
    case round =>
      obtain ⟨k, hk, rfl, hown, hnx⟩ := hrel
      by_cases hlt : k < os.length
      · obtain ⟨o, ho⟩ : ∃ o, o = os.getD k zop := ⟨_, rfl⟩
        have HR := Lib.hid (by rw [ho]; exact rangeAt_below (HC.out k hlt) hnx (rangeAt_lt (HC.out k hlt)) : wr.rangeAt b (off + k * 12) (opL o))
        have HO := Lib.hid ho
        clear ho
        go_wp2_with (refine loadL rfl _ rfl rfl HR.out ?_)
        refine (toOp o _).mono ?_
        rintro e w1 ⟨rfl, hb1⟩
        have hown1 := hown.below hb1
        have hth := hown1.there hlt
        have HTH := Lib.hid hth
        clear hth
        go_wp2_with (with_reducible refine storeI (v := o) (b := w.heap.size) (o := k * 12) rfl _ _ rfl rfl rfl HTH.out ?_)
        go_roundw
        case rel =>
          refine ⟨k + 1, by omega, by go_num, (hown1.put hlt o).congr fun i hi => ?_, below_setCells (Nat.le_refl _) _ _ _ (hnx.trans (hb1.mono hnx.size))⟩
          by_cases e : i = k
          · subst e; simp [HO.out]
          · by_cases e2 : i < k
            · simp [e, e2, Nat.lt_succ_of_lt e2]
            · have : ¬ i < k + 1 := by omega
              simp [e, e2, this]
        case measure => simp [intOf]; omega
      · obtain rfl : k = os.length := by omega
        go_wp2
        go_ret
        exact ⟨w.heap.size, rfl, Nat.le_refl _, hown.congr fun i hi => by simp [hi], hnx⟩

end Go.Proofs.Ytkkeaimoplkliaa.LgC
