/-
  Row's of the exact laws and of the program: the cells of one, sz, to and eq of one and of slices of them. For slices that read as a list of at most 2^20; no further condition.
-/
import Derived.Test.YtmhflifaeplalaaGsA
import Derived.BigQuiet
import Derived.Deep.QuietTactic
import Derived.Handy
import Derived.Outline
namespace Go.Proofs.Ytmhflifaeplalaa.GwB
open Go.RowKit Go.Proofs.Ytmhflifaeplalaa.Base Go.Proofs.Ytmhflifaeplalaa.GsA
set_option linter.unusedVariables false

structure RowV where
  i : Int
  j : Int
  k : Int
  d : Int
  tx : ByteArray
def LRow (x : RowV) : List Value := [.int .i64 x.i, .int .i64 x.j, .int .i64 x.k, .int .i64 x.d, .string x.tx]
def zRow : RowV := ⟨0, 0, 0, 0, ByteArray.empty⟩
def ERow : Elt RowV where
  n := 5
  L := LRow
  z := zRow
  hn := by omega
  len := fun _ => rfl
  one := by
    intro x u hu
    simp only [LRow, List.mem_cons, List.not_mem_nil, or_false] at hu
    rcases hu with rfl | rfl | rfl | rfl | rfl <;> rfl
abbrev CRow (w : World) (b o : Nat) (x : RowV) : Prop := w.cell? ⟨b, o, none⟩ = some (.int .i64 x.i) ∧ w.cell? ⟨b, o + 1, none⟩ = some (.int .i64 x.j) ∧ w.cell? ⟨b, o + 2, none⟩ = some (.int .i64 x.k) ∧ w.cell? ⟨b, o + 3, none⟩ = some (.int .i64 x.d) ∧ w.cell? ⟨b, o + 4, none⟩ = some (.string x.tx)
theorem cRow {w : World} {b o : Nat} {x : RowV} (h : w.rangeAt b o (ERow.L x)) : CRow w b o x := ⟨h 0 _ rfl, h 1 _ rfl, h 2 _ rfl, h 3 _ rfl, h 4 _ rfl⟩
theorem size_lRow : (Try.prog.info? 70).map (·.size) = some 5 := by kernel_rfl
theorem size_iRow : (Try.prog.info? 38).map (·.size) = some 5 := by kernel_rfl
theorem info_Row : (Try.prog.info? 38).map (fun i => (i.zero, i.size, i.bytes)) = some (some (.agg #[.int .i64 zRow.i, .int .i64 zRow.j, .int .i64 zRow.k, .int .i64 zRow.d, .string zRow.tx]), 5, 48) := by kernel_rfl

theorem load_lRow {ops : Array Oper} {rest : List Oper} {op : Oper} {a : Act} {w : World} {Q : Exit → Act → World → Prop} (hgd : op.guard = none) (x : Operand) (ho : op.op = .load 70 x) {b o : Nat} {y : RowV}
    (hx : a.eval x = .pointer (some ⟨b, o, none⟩)) (h : w.rangeAt b o (ERow.L y)) (k : wpList Try.prog ops Q rest (a.put op.dst (.agg #[.int .i64 y.i, .int .i64 y.j, .int .i64 y.k, .int .i64 y.d, .string y.tx])) w) : wpList Try.prog ops Q (op :: rest) a w :=
  wpList_load_mid hgd 70 x ho b o hx (LRow y) _ h Try.underlying70 rfl size_lRow k
theorem load_iRow {ops : Array Oper} {rest : List Oper} {op : Oper} {a : Act} {w : World} {Q : Exit → Act → World → Prop} (hgd : op.guard = none) (x : Operand) (ho : op.op = .load 38 x) {b o : Nat} {y : RowV}
    (hx : a.eval x = .pointer (some ⟨b, o, none⟩)) (h : w.rangeAt b o (ERow.L y)) (k : wpList Try.prog ops Q rest (a.put op.dst (.agg #[.int .i64 y.i, .int .i64 y.j, .int .i64 y.k, .int .i64 y.d, .string y.tx])) w) : wpList Try.prog ops Q (op :: rest) a w :=
  wpList_load_mid hgd 38 x ho b o hx (LRow y) _ h Try.underlying38 rfl size_iRow k
theorem store_iRow {ops : Array Oper} {rest : List Oper} {op : Oper} {a : Act} {w : World} {Q : Exit → Act → World → Prop} (hgd : op.guard = none) (x y : Operand) (ho : op.op = .store 38 x y) {b o : Nat} {v : RowV}
    (hx : a.eval x = .pointer (some ⟨b, o, none⟩)) (hy : a.eval y = .agg #[.int .i64 v.i, .int .i64 v.j, .int .i64 v.k, .int .i64 v.d, .string v.tx]) (h : w.there b o 5) (k : wpList Try.prog ops Q rest (a.put op.dst undef) (w.setCells b o (ERow.L v))) : wpList Try.prog ops Q (op :: rest) a w :=
  wpList_store_mid hgd 38 x y ho b o _ hx hy h size_iRow (by simp [Value.oneCell']) k
theorem quiet_iRow {ops : Array Oper} {rest : List Oper} {op : Oper} {a : Act} {C : World → Prop} {Q : Act → Prop} (hgd : op.guard = none) (x : Operand) (ho : op.op = .load 38 x) {b o : Nat} {y : RowV}
    (hx : a.eval x = .pointer (some ⟨b, o, none⟩)) (h : ∀ W, C W → W.rangeAt b o (ERow.L y)) (k : wpQuiet Try.prog ops C Q rest (a.put op.dst (.agg #[.int .i64 y.i, .int .i64 y.j, .int .i64 y.k, .int .i64 y.d, .string y.tx]))) : wpQuiet Try.prog ops C Q (op :: rest) a :=
  wpQuiet_step fun K hK => by
    rw [if_pos (by simp [Region.wanted, hgd])]
    exact ⟨_, fun W hW => by
    have hr := run_loadVar_mid (P := Try.prog) W b o 38 (LRow y) _ (h W hW) Try.underlying38 rfl size_iRow
    unfold Oper.quietAt execOp
    simp only [ho, hx, Instr.loadAt, Instr.sureAddr, Sem.run_bind, Sem.run_pure, Result.andThen_ok, hr]
    exact ⟨rfl, rfl⟩, hK _ k⟩

/-- What szRow leaves of the room. -/
def szV (x : RowV) (left : Int) : Int := if left - x.tx.size < 0 then -1 else left - x.tx.size
theorem szV_cases (x : RowV) (left : Int) (h : 0 ≤ left) : szV x left = -1 ∨ (0 ≤ szV x left ∧ szV x left = left - x.tx.size) := by
  unfold szV
  by_cases h1 : left - x.tx.size < 0
  · left; rw [if_pos h1]
  · right; rw [if_neg h1]; omega
theorem szRow (x : RowV) (left : Int) (w : World) (hs : x.tx.size ≤ maxLen) (hl : 0 ≤ left ∧ left ≤ 1048576) :
    Calls Try.prog 47 #[.agg #[.int .i64 x.i, .int .i64 x.j, .int .i64 x.k, .int .i64 x.d, .string x.tx], .int .i64 left] w fun e w' => e = .returned (.int .i64 (szV x left)) ∧ Below w.heap.size w w' := by
  obtain ⟨hl0, hl1⟩ := hl
  unfold maxLen at hs
  by_cases h : left - x.tx.size < 0
  · have e : szV x left = -1 := by unfold szV; rw [if_pos h]
    rw [e]
    clear e
    go_enter Try.func47, Try.ntmps47
    go_wp2
    go_ret
    exact ⟨rfl, (Below.refl _ _).alloc (Nat.le_refl _) _⟩
  · have e : szV x left = left - x.tx.size := by unfold szV; rw [if_neg h]
    rw [e]
    clear e
    go_enter Try.func47, Try.ntmps47
    go_wp2
    go_ret
    exact ⟨rfl, (Below.refl _ _).alloc (Nat.le_refl _) _⟩

set_option maxHeartbeats 2000000 in
theorem toRow (x : RowV) (w : World) :
    Calls Try.prog 48 #[.agg #[.int .i64 x.i, .int .i64 x.j, .int .i64 x.k, .int .i64 x.d, .string x.tx]] w fun e w' => e = .returned (.agg #[.int .i64 x.i, .int .i64 x.j, .int .i64 x.k, .int .i64 x.d, .string x.tx]) ∧ Below w.heap.size w w' := by
  go_enter Try.func48, Try.ntmps48
  go_wp2
  go_returns
  refine ⟨rfl, ?_⟩
  go_grown

/-- The length of the first k texts together. -/
def txs (xs : List RowV) : Nat → Nat
  | 0 => 0
  | k + 1 => txs xs k + (xs.getD k zRow).tx.size
/-- What szRowS gives: the room that is left, or -1. -/
def SzG (xs : List RowV) (left : Int) (w : World) (e : Ending) (w' : World) : Prop :=
  (e = .returned (.int .i64 (-1)) ∨ ∃ r : Int, 0 ≤ r ∧ r ≤ left ∧ (xs.length : Int) + txs xs xs.length ≤ left ∧ e = .returned (.int .i64 r)) ∧ Below w.heap.size w w'

set_option maxRecDepth 100000 in
theorem szRowS (a : Option Addr) (c : Nat) (xs : List RowV) (left : Int) (w : World) (hr : RdG ERow w a xs) (hm : xs.length ≤ maxLen) (ht : ∀ k, k < xs.length → (xs.getD k zRow).tx.size ≤ maxLen) (hl : 0 ≤ left ∧ left ≤ 1048576) :
    Calls Try.prog 16 #[.slice a xs.length c, .int .i64 left] w (SzG xs left w) := by
  obtain ⟨hl0, hl1⟩ := hl
  unfold maxLen at hm
  have HT := Lib.hid ht
  clear ht
  rcases hr with rfl | ⟨b, off, rfl, hc⟩
  · go_enter Try.func16, Try.ntmps16
    go_wp2
    go_rounds 1
    go_ret
    exact ⟨.inr ⟨left, hl0, Int.le_refl _, by simpa [txs] using hl0, ret_int (by simp)⟩, Below.refl _ _⟩
  · have HC := Lib.hid hc
    clear hc
    by_cases h0 : left - xs.length < 0
    · go_enter Try.func16, Try.ntmps16
      go_wp2
      go_ret
      exact ⟨.inl rfl, Below.refl _ _⟩
    · have hn : xs.length ≤ 1048576 := by omega
      clear hm
      go_enter Try.func16, Try.ntmps16
      go_wp2
      go_loopw [1, 5] (fun l i wr => ∃ (k : Nat) (r : Int), k ≤ xs.length ∧ i = .int .i64 k ∧ 0 ≤ r ∧ Hid (r = left - xs.length - txs xs k) ∧ r ≤ 1048576 ∧ l = .int .i64 r ∧ Below w.heap.size w wr) (fun _ i _ => xs.length - (intOf i).toNat)
      case atStart => exact ⟨0, left - xs.length, Nat.zero_le _, rfl, by omega, (by simp [txs] : left - xs.length = left - xs.length - txs xs 0), by omega, rfl, Below.refl _ _⟩
      case round =>
        obtain ⟨k, r, hk, rfl, hr0, hrr, hr1, rfl, hnx⟩ := hrel
        by_cases hlt : k < xs.length
        · obtain ⟨x, hx⟩ : ∃ x, x = xs.getD k zRow := ⟨_, rfl⟩
          have hrg : wr.rangeAt b (off + k * 5) (ERow.L x) := by rw [hx]; exact rangeAt_below (HC.out k hlt) hnx (rangeAt_ltG ERow (HC.out k hlt))
          have HR := Lib.hid hrg
          clear hrg
          have hs := HT.out k hlt
          have HTX := Lib.hid (show txs xs (k + 1) = txs xs k + x.tx.size by rw [hx]; rfl)
          rw [show xs.getD k zRow = x from hx.symm] at hs
          have HS := Lib.hid hs
          clear hs
          clear hx
          rcases szV_cases x r hr0 with hv | ⟨hv0, hv1⟩
          · have HZ := Lib.hid (fun w => szRow x r w HS.out ⟨hr0, by omega⟩)
            rw [hv] at HZ
            clear hv
            go_wp2_with (refine load_lRow rfl _ rfl rfl HR.out ?_)
            refine (HZ.out _).mono ?_
            rintro e w1 ⟨rfl, hb1⟩
            go_wp2
            go_ret
            exact ⟨.inl rfl, hnx.trans (hb1.mono hnx.size)⟩
          · have HZ := Lib.hid (fun w => szRow x r w HS.out ⟨hr0, by omega⟩)
            generalize szV x r = r' at HZ hv0 hv1
            have HV := Lib.hid hv1
            have hr2 : r' ≤ 1048576 := by omega
            clear hv1
            go_wp2_with (refine load_lRow rfl _ rfl rfl HR.out ?_)
            refine (HZ.out _).mono ?_
            rintro e w1 ⟨rfl, hb1⟩
            go_wp2
            go_roundw
            case rel => exact ⟨k + 1, r', by omega, by go_num, hv0, (by have h1 := hrr.out; have h2 := HV.out; rw [HTX.out]; omega : r' = left - xs.length - txs xs (k + 1)), hr2, rfl, hnx.trans (hb1.mono hnx.size)⟩
            case measure => simp [intOf]; omega
        · obtain rfl : k = xs.length := by omega
          have h1 := hrr.out
          have h2 : r ≤ left := by omega
          have h3 : (xs.length : Int) + txs xs xs.length ≤ left := by omega
          clear h1
          go_wp2
          go_ret
          exact ⟨.inr ⟨r, hr0, h2, h3, rfl⟩, hnx⟩

/-- The value returned is a slice over a new block with just the elements xs. -/
def NewRow (w : World) (xs : List RowV) (e : Ending) (w' : World) : Prop :=
  ∃ b, e = .returned (.slice (some ⟨b, 0, none⟩) xs.length xs.length) ∧ w.heap.size ≤ b ∧ OwnG ERow 38 w' b xs.length xs.length (fun i => xs.getD i zRow) ∧ Below w.heap.size w w'
def ZRow : Array Value := #[.int .i64 zRow.i, .int .i64 zRow.j, .int .i64 zRow.k, .int .i64 zRow.d, .string zRow.tx]
theorem run_make_Row (n : Nat) (h : n ≤ 1048576) (w : World) :
    (Instr.makeSlice 30 (.int .i64 (n : Int)) (.int .i64 (n : Int))).run Try.prog w = .ok (.slice (some ⟨w.heap.size, 0, none⟩) n n) (w.alloc (.cells (madeCells ZRow (n * 5)) 38)) := by
  obtain ⟨i, hi, hz, hs, hb⟩ := info_parts info_Row
  have := run_make (P := Try.prog) w 30 38 i _ Try.underlying30 hi hz .i64 .i64 n n (by omega) (Int.le_refl _) (by rw [hb]; omega) (by omega)
  rw [hs] at this
  simpa [zRow, ZRow, Value.cells] using this

set_option maxRecDepth 100000 in
theorem toRowS (a : Option Addr) (c : Nat) (xs : List RowV) (w : World) (hr : RdG ERow w a xs) (hl : xs.length ≤ 1048576) :
    Calls Try.prog 18 #[.slice a xs.length c] w (NewRow w xs) := by
  have hmk := run_make_Row xs.length hl
  have made : OwnG ERow 38 (w.alloc (.cells (madeCells ZRow (xs.length * 5)) 38)) w.heap.size xs.length xs.length (fun _ => zRow) := OwnG.made (E := ERow) (C := ZRow) rfl
  rcases hr with rfl | ⟨b, off, rfl, hc⟩
  · simp only [List.length_nil, Int.natCast_zero] at hmk made ⊢
    have HM := Lib.hid made
    clear made
    go_enter Try.func18, Try.ntmps18
    go_wp2
    go_rounds 1
    go_ret
    exact ⟨w.heap.size, rfl, Nat.le_refl _, HM.out.congr fun k hk => by omega, (Below.refl _ _).alloc (Nat.le_refl _) _⟩
  · have HC := Lib.hid hc
    have HM := Lib.hid made
    clear hc made
    go_enter Try.func18, Try.ntmps18
    go_wp2
    clear hmk
    go_loopw [4] (fun i wr => ∃ k : Nat, k ≤ xs.length ∧ i = .int .i64 k ∧ OwnG ERow 38 wr w.heap.size xs.length xs.length (fun j => if j < k then xs.getD j zRow else zRow) ∧ Below w.heap.size w wr) (fun i _ => xs.length - (intOf i).toNat)
    case atStart =>
      exact ⟨0, Nat.zero_le _, rfl, HM.out.congr fun k hk => by simp, (Below.refl _ _).alloc (Nat.le_refl _) _⟩
    case round =>
      obtain ⟨k, hk, rfl, hown, hnx⟩ := hrel
      by_cases hlt : k < xs.length
      · obtain ⟨x, hx⟩ : ∃ x, x = xs.getD k zRow := ⟨_, rfl⟩
        have HR := Lib.hid (by rw [hx]; exact rangeAt_below (HC.out k hlt) hnx (rangeAt_ltG ERow (HC.out k hlt)) : wr.rangeAt b (off + k * 5) (ERow.L x))
        have HO := Lib.hid hx
        clear hx
        go_wp2_with (refine load_lRow rfl _ rfl rfl HR.out ?_)
        refine (toRow x _).mono ?_
        rintro e w1 ⟨rfl, hb1⟩
        have hown1 := hown.below hb1
        have hth : w1.there w.heap.size (k * 5) 5 := hown1.there hlt 0 5 (Nat.le_refl _)
        have HTH := Lib.hid hth
        clear hth
        go_wp2_with (with_reducible refine store_iRow (v := x) (b := w.heap.size) (o := k * 5) rfl _ _ rfl rfl rfl HTH.out ?_)
        go_roundw
        case rel =>
          refine ⟨k + 1, by omega, by go_num, (hown1.put hlt x).congr fun i hi => ?_, below_setCells (Nat.le_refl _) _ _ _ (hnx.trans (hb1.mono hnx.size))⟩
          by_cases e : i = k
          · subst e; simp [HO.out]
          · by_cases e2 : i < k
            · simp [e, e2, Nat.lt_succ_of_lt e2]
            · have : ¬ i < k + 1 := by omega
              simp [e, e2, this]
        case measure => simp [intOf]; omega
      · obtain rfl : k = xs.length := by omega
        go_wp2
        go_ret
        exact ⟨w.heap.size, rfl, Nat.le_refl _, hown.congr fun i hi => by simp [hi], hnx⟩


theorem eqStamp_refl (s a : Int) (w : World) :
    Calls Try.prog 77 #[.agg #[.int .i64 s, .int .i64 a], .agg #[.int .i64 s, .int .i64 a]] w fun e w' => e = .returned (.bool true) ∧ Below w.heap.size w w' := by
  go_enter Try.func77, Try.ntmps77
  go_wp2
  go_ret
  exact ⟨rfl, ((Below.refl _ _).alloc (Nat.le_refl _) _).alloc (by simp) _⟩


set_option maxHeartbeats 1000000 in
theorem eqRow_refl (x : RowV) (w : World) :
    Calls Try.prog 51 #[.agg #[.int .i64 x.i, .int .i64 x.j, .int .i64 x.k, .int .i64 x.d, .string x.tx], .agg #[.int .i64 x.i, .int .i64 x.j, .int .i64 x.k, .int .i64 x.d, .string x.tx]] w fun e w' => e = .returned (.bool true) ∧ Below w.heap.size w w' := by
  go_enter Try.func51, Try.ntmps51
  go_wp2_with fail
  refine (eqStamp_refl _ _ _).mono ?_
  rintro e w1 ⟨rfl, hb1⟩
  have hz0 : w.heap.size + 1 < ((w.alloc (.cells #[.int .i64 x.i, .int .i64 x.j, .int .i64 x.k, .int .i64 x.d, .string x.tx] 38)).alloc (.cells #[.int .i64 x.i, .int .i64 x.j, .int .i64 x.k, .int .i64 x.d, .string x.tx] 38)).heap.size := by simp
  have B1 : Below w.heap.size w w1 := (((Below.refl _ _).alloc (Nat.le_refl _) _).alloc (by simp) _).trans (hb1.mono (by simp; omega))
  obtain ⟨hc1, hd1⟩ := oldCells hb1
  go_wp2
  go_ret
  exact ⟨rfl, B1⟩

set_option maxRecDepth 100000 in
theorem eqRowS (a a' : Option Addr) (c c' : Nat) (xs : List RowV) (w : World) (hx : RdG ERow w a xs) (hy : RdG ERow w a' xs) (hl : xs.length ≤ 1048576) :
    Calls Try.prog 20 #[.slice a xs.length c, .slice a' xs.length c'] w fun e w' => e = .returned (.bool true) ∧ Below w.heap.size w w' := by
  rcases hx with rfl | ⟨b, off, rfl, hc⟩
  · go_enter Try.func20, Try.ntmps20
    go_wp2
    go_rounds 1
    go_ret
    exact ⟨rfl, Below.refl _ _⟩
  · rcases hy with rfl | ⟨b', off', rfl, hc'⟩
    · go_enter Try.func20, Try.ntmps20
      go_wp2
      go_rounds 1
      go_ret
      exact ⟨rfl, Below.refl _ _⟩
    · have HC := Lib.hid hc
      have HC' := Lib.hid hc'
      clear hc hc'
      go_enter Try.func20, Try.ntmps20
      go_wp2
      go_loopw [5] (fun i wr => ∃ k : Nat, k ≤ xs.length ∧ i = .int .i64 k ∧ Below w.heap.size w wr) (fun i _ => xs.length - (intOf i).toNat)
      case atStart => exact ⟨0, Nat.zero_le _, rfl, Below.refl _ _⟩
      case round =>
        obtain ⟨k, hk, rfl, hnx⟩ := hrel
        by_cases hlt : k < xs.length
        · obtain ⟨x, ho⟩ : ∃ x, x = xs.getD k zRow := ⟨_, rfl⟩
          have HR := Lib.hid (by rw [ho]; exact rangeAt_below (HC.out k hlt) hnx (rangeAt_ltG ERow (HC.out k hlt)) : wr.rangeAt b (off + k * 5) (ERow.L x))
          have HR' := Lib.hid (by rw [ho]; exact rangeAt_below (HC'.out k hlt) hnx (rangeAt_ltG ERow (HC'.out k hlt)) : wr.rangeAt b' (off' + k * 5) (ERow.L x))
          have HO := Lib.hid ho
          clear ho
          have hk0 : (0 : Int) ≤ (k : Int) := Int.natCast_nonneg _
          have hk1 : (k : Int) < (xs.length : Int) := by omega
          go_wp2
          go_region_held3 (fun w' => CRow w' b (off + k * 5) x ∧ CRow w' b' (off' + k * 5) x ∧ Below wr.heap.size wr w')
            (first | exact ⟨cRow HR.out, cRow HR'.out, (Below.refl _ _).drew⟩ | (have hB : Below wr.heap.size wr w1 := (Below.refl _ _).drew.trans hb1; exact ⟨cRow (rangeAt_below HR.out hB (rangeAt_ltG ERow HR.out)), cRow (rangeAt_below HR'.out hB (rangeAt_ltG ERow HR'.out)), hB⟩))
            (first | (go_at_call 51; refine (eqRow_refl x _).mono ?_; rintro e w1 ⟨rfl, hb1⟩))
          go_wp2
          go_roundw
          case rel => exact ⟨k + 1, by omega, by go_num, hnx.trans ((And.right (And.right (by assumption : CRow _ b (off + k * 5) x ∧ CRow _ b' (off' + k * 5) x ∧ Below wr.heap.size wr _))).mono hnx.size)⟩
          case measure => simp [intOf]; omega
        · obtain rfl : k = xs.length := by omega
          go_wp2
          go_ret
          exact ⟨rfl, hnx⟩

end Go.Proofs.Ytmhflifaeplalaa.GwB
