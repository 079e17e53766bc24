/-
  Messages of the exact laws and of the program: the cells of one, sz, to and eq of one and of slices of them. For slices that read as a list of at most 2^20; no further condition.
-/
import Derived.Test.YtdbnflgckcjlcaaGsB
import Derived.Test.YtdbnflgckcjlcaaK2
import Derived.Handy
import Derived.Outline
namespace Go.Proofs.Ytdbnflgckcjlcaa.MsA
open Go.RowKit Go.Proofs.Ytdbnflgckcjlcaa.Base Go.Proofs.Ytdbnflgckcjlcaa.St Go.Proofs.Ytdbnflgckcjlcaa.StB Go.Proofs.Ytdbnflgckcjlcaa.OpA Go.Proofs.Ytdbnflgckcjlcaa.OpB Go.Proofs.Ytdbnflgckcjlcaa.OpT Go.Proofs.Ytdbnflgckcjlcaa.LgD Go.Proofs.Ytdbnflgckcjlcaa.GsA Go.Proofs.Ytdbnflgckcjlcaa.GsB
open Go.Proofs.Ytdbnflgckcjlcaa.LgA (opL opL_len zop C12 c12)
open Go.Proofs.Ytdbnflgckcjlcaa.LgB (loadL loadI storeI quietI SzOk szV_cases)
open Go.Proofs.Ytdbnflgckcjlcaa.LgF (region_lit)
set_option linter.unusedVariables false
attribute [local go_sem ↓] Go.wp_at_zero Go.wp_at_succ
attribute [local irreducible] Go.wpQuiet

structure MsgV where
  o : OpV
  p : Int
def LMsg (x : MsgV) : List Value := [.int .i64 x.o.i, .int .i64 x.o.j, .int .i64 x.o.k, .int .i64 x.o.ts, .int .i64 x.o.ta, .int .i64 x.o.fs, .int .i64 x.o.fa, .int .i64 x.o.ns, .int .i64 x.o.na, .int .i64 x.o.v, .bool x.o.en, .string x.o.tx, .int .i64 x.p]
def zMsg : MsgV := ⟨zop, 0⟩
def EMsg : Elt MsgV where
  n := 13
  L := LMsg
  z := zMsg
  hn := by omega
  len := fun _ => rfl
  one := by
    intro x u hu
    simp only [LMsg, List.mem_cons, List.not_mem_nil, or_false] at hu
    rcases hu with rfl | rfl | rfl | rfl | rfl | rfl | rfl | rfl | rfl | rfl | rfl | rfl | rfl <;> rfl
theorem lMsg (x : MsgV) : LMsg x = opL x.o ++ [.int .i64 x.p] := rfl
/-- The operation in a message; its number. -/
theorem msg_op {w : World} {b o : Nat} {x : MsgV} (h : w.rangeAt b o (EMsg.L x)) : w.rangeAt b o (opL x.o) := fun j v hj => h j v (by
  show (LMsg x)[j]? = some v
  rw [lMsg, List.getElem?_append_left (List.getElem?_eq_some_iff.1 hj).1]
  exact hj)
theorem msg_p {w : World} {b o : Nat} {x : MsgV} (h : w.rangeAt b o (EMsg.L x)) : w.cell? ⟨b, o + 12, none⟩ = some (.int .i64 x.p) := h 12 _ rfl
theorem size_lMessage : (Try.prog.info? 114).map (·.size) = some 13 := by kernel_rfl
theorem size_iMessage : (Try.prog.info? 88).map (·.size) = some 13 := by kernel_rfl
theorem info_Message : (Try.prog.info? 88).map (fun i => (i.zero, i.size, i.bytes)) = some (some (.agg #[.int .i64 zMsg.o.i, .int .i64 zMsg.o.j, .int .i64 zMsg.o.k, .int .i64 zMsg.o.ts, .int .i64 zMsg.o.ta, .int .i64 zMsg.o.fs, .int .i64 zMsg.o.fa, .int .i64 zMsg.o.ns, .int .i64 zMsg.o.na, .int .i64 zMsg.o.v, .bool zMsg.o.en, .string zMsg.o.tx, .int .i64 zMsg.p]), 13, 112) := by kernel_rfl
abbrev DMsg : Ty EMsg where
  T := 88
  S := 48
  zero := .agg #[.int .i64 zMsg.o.i, .int .i64 zMsg.o.j, .int .i64 zMsg.o.k, .int .i64 zMsg.o.ts, .int .i64 zMsg.o.ta, .int .i64 zMsg.o.fs, .int .i64 zMsg.o.fa, .int .i64 zMsg.o.ns, .int .i64 zMsg.o.na, .int .i64 zMsg.o.v, .bool zMsg.o.en, .string zMsg.o.tx, .int .i64 zMsg.p]
  bytes := 112
  und := Try.underlying48
  elem := by kernel_rfl
  info := info_Message
  hz := rfl
  hs := by omega
theorem load_lMsg {ops : Array Oper} {rest : List Oper} {op : Oper} {a : Act} {w : World} {Q : Exit → Act → World → Prop} (hgd : op.guard = none) (x : Operand) (ho : op.op = .load 114 x) {b o : Nat} {y : MsgV}
    (hx : a.eval x = .pointer (some ⟨b, o, none⟩)) (h : w.rangeAt b o (EMsg.L y)) (k : wpList Try.prog ops Q rest (a.put op.dst (.agg #[.int .i64 y.o.i, .int .i64 y.o.j, .int .i64 y.o.k, .int .i64 y.o.ts, .int .i64 y.o.ta, .int .i64 y.o.fs, .int .i64 y.o.fa, .int .i64 y.o.ns, .int .i64 y.o.na, .int .i64 y.o.v, .bool y.o.en, .string y.o.tx, .int .i64 y.p])) w) : wpList Try.prog ops Q (op :: rest) a w :=
  wpList_load_mid hgd 114 x ho b o hx (LMsg y) _ h Try.underlying114 rfl size_lMessage k
theorem load_iMsg {ops : Array Oper} {rest : List Oper} {op : Oper} {a : Act} {w : World} {Q : Exit → Act → World → Prop} (hgd : op.guard = none) (x : Operand) (ho : op.op = .load 88 x) {b o : Nat} {y : MsgV}
    (hx : a.eval x = .pointer (some ⟨b, o, none⟩)) (h : w.rangeAt b o (EMsg.L y)) (k : wpList Try.prog ops Q rest (a.put op.dst (.agg #[.int .i64 y.o.i, .int .i64 y.o.j, .int .i64 y.o.k, .int .i64 y.o.ts, .int .i64 y.o.ta, .int .i64 y.o.fs, .int .i64 y.o.fa, .int .i64 y.o.ns, .int .i64 y.o.na, .int .i64 y.o.v, .bool y.o.en, .string y.o.tx, .int .i64 y.p])) w) : wpList Try.prog ops Q (op :: rest) a w :=
  wpList_load_mid hgd 88 x ho b o hx (LMsg y) _ h Try.underlying88 rfl size_iMessage k
theorem store_iMsg {ops : Array Oper} {rest : List Oper} {op : Oper} {a : Act} {w : World} {Q : Exit → Act → World → Prop} (hgd : op.guard = none) (x y : Operand) (ho : op.op = .store 88 x y) {b o : Nat} {v : MsgV}
    (hx : a.eval x = .pointer (some ⟨b, o, none⟩)) (hy : a.eval y = .agg #[.int .i64 v.o.i, .int .i64 v.o.j, .int .i64 v.o.k, .int .i64 v.o.ts, .int .i64 v.o.ta, .int .i64 v.o.fs, .int .i64 v.o.fa, .int .i64 v.o.ns, .int .i64 v.o.na, .int .i64 v.o.v, .bool v.o.en, .string v.o.tx, .int .i64 v.p]) (h : w.there b o 13) (k : wpList Try.prog ops Q rest (a.put op.dst undef) (w.setCells b o (EMsg.L v))) : wpList Try.prog ops Q (op :: rest) a w :=
  wpList_store_mid hgd 88 x y ho b o _ hx hy h size_iMessage (by simp [Value.oneCell']) k
theorem quiet_iMsg {ops : Array Oper} {rest : List Oper} {op : Oper} {a : Act} {C : World → Prop} {Q : Act → Prop} (hgd : op.guard = none) (x : Operand) (ho : op.op = .load 88 x) {b o : Nat} {y : MsgV}
    (hx : a.eval x = .pointer (some ⟨b, o, none⟩)) (h : ∀ W, C W → W.rangeAt b o (EMsg.L y)) (k : wpQuiet Try.prog ops C Q rest (a.put op.dst (.agg #[.int .i64 y.o.i, .int .i64 y.o.j, .int .i64 y.o.k, .int .i64 y.o.ts, .int .i64 y.o.ta, .int .i64 y.o.fs, .int .i64 y.o.fa, .int .i64 y.o.ns, .int .i64 y.o.na, .int .i64 y.o.v, .bool y.o.en, .string y.o.tx, .int .i64 y.p]))) : wpQuiet Try.prog ops C Q (op :: rest) a :=
  wpQuiet_step fun K hK => by
    rw [if_pos (by simp [Region.wanted, hgd])]
    exact ⟨_, fun W hW => by
    have hr := run_loadVar_mid (P := Try.prog) W b o 88 (LMsg y) _ (h W hW) Try.underlying88 rfl size_iMessage
    unfold Oper.quietAt execOp
    simp only [ho, hx, Instr.loadAt, Instr.sureAddr, Sem.run_bind, Sem.run_pure, Result.andThen_ok, hr]
    exact ⟨rfl, rfl⟩, hK _ k⟩

/-- The box of a message that came in. -/
theorem boxM (w : World) (x : MsgV) (T : TypeId) : (w.alloc (.cells #[.int .i64 x.o.i, .int .i64 x.o.j, .int .i64 x.o.k, .int .i64 x.o.ts, .int .i64 x.o.ta, .int .i64 x.o.fs, .int .i64 x.o.fa, .int .i64 x.o.ns, .int .i64 x.o.na, .int .i64 x.o.v, .bool x.o.en, .string x.o.tx, .int .i64 x.p] T)).rangeAt w.heap.size 0 (EMsg.L x) := by
  intro j u hu
  have := newsG (E := EMsg) w x #[.int .i64 x.o.i, .int .i64 x.o.j, .int .i64 x.o.k, .int .i64 x.o.ts, .int .i64 x.o.ta, .int .i64 x.o.fs, .int .i64 x.o.fa, .int .i64 x.o.ns, .int .i64 x.o.na, .int .i64 x.o.v, .bool x.o.en, .string x.o.tx, .int .i64 x.p] T rfl j u hu
  rw [Addr.add_mid] at this
  exact this

set_option maxRecDepth 100000 in
theorem szMessage (x : MsgV) (left : Int) (w : World) (hs : x.o.tx.size ≤ maxLen) (hl : 0 ≤ left ∧ left ≤ 1048576) :
    Calls Try.prog 79 #[.agg #[.int .i64 x.o.i, .int .i64 x.o.j, .int .i64 x.o.k, .int .i64 x.o.ts, .int .i64 x.o.ta, .int .i64 x.o.fs, .int .i64 x.o.fa, .int .i64 x.o.ns, .int .i64 x.o.na, .int .i64 x.o.v, .bool x.o.en, .string x.o.tx, .int .i64 x.p], .int .i64 left] w fun e w' => e = .returned (.int .i64 (szV x.o left)) ∧ Below w.heap.size w w' := by
  obtain ⟨w0, hw0⟩ : ∃ w0, w0 = w.alloc (.cells #[.int .i64 x.o.i, .int .i64 x.o.j, .int .i64 x.o.k, .int .i64 x.o.ts, .int .i64 x.o.ta, .int .i64 x.o.fs, .int .i64 x.o.fa, .int .i64 x.o.ns, .int .i64 x.o.na, .int .i64 x.o.v, .bool x.o.en, .string x.o.tx, .int .i64 x.p] 114) := ⟨_, rfl⟩
  have HB := Lib.hid (by rw [hw0]; exact (Below.refl _ _).alloc (Nat.le_refl _) _ : Below w.heap.size w w0)
  have HR := Lib.hid (by rw [hw0]; exact msg_op (boxM w x _) : w0.rangeAt w.heap.size 0 (opL x.o))
  have HS := Lib.hid (szOp x.o left w0 hs hl)
  have hc := szV_cases x.o left hl.1
  have HW := Lib.hid hw0
  clear hw0 hs hl
  generalize szV x.o left = r at HS hc ⊢
  rcases hc with rfl | ⟨h0, h1⟩
  · go_enter Try.func79, Try.ntmps79
    go_wp2_with (first | (rw [← HW.out]; refine loadL rfl _ rfl rfl HR.out ?_) | (refine loadL rfl _ rfl rfl HR.out ?_))
    refine HS.out.mono ?_
    rintro e w1 ⟨rfl, hb1⟩
    go_wp2
    go_ret
    exact ⟨rfl, HB.out.trans (hb1.mono HB.out.size)⟩
  · go_enter Try.func79, Try.ntmps79
    go_wp2_with (first | (rw [← HW.out]; refine loadL rfl _ rfl rfl HR.out ?_) | (refine loadL rfl _ rfl rfl HR.out ?_))
    refine HS.out.mono ?_
    rintro e w1 ⟨rfl, hb1⟩
    go_wp2
    go_ret
    exact ⟨rfl, HB.out.trans (hb1.mono HB.out.size)⟩

set_option maxRecDepth 100000 in
theorem szMessageS (a : Option Addr) (c : Nat) (os : List MsgV) (left : Int) (w : World) (hr : RdG EMsg w a os) (hm : os.length ≤ maxLen) (ht : ∀ k, k < os.length → (os.getD k zMsg).o.tx.size ≤ maxLen) (hl : 0 ≤ left ∧ left ≤ 1048576) :
    Calls Try.prog 51 #[.slice a os.length c, .int .i64 left] w (SzOk os.length left w) := by
  obtain ⟨hl0, hl1⟩ := hl
  unfold maxLen at hm
  have HT := Lib.hid ht
  clear ht
  rcases hr with rfl | ⟨b, off, rfl, hc⟩
  · go_enter Try.func51, Try.ntmps51
    go_wp2
    go_rounds 1
    go_ret
    exact ⟨.inr ⟨left, hl0, Int.le_refl _, by simpa using hl0, ret_int (by simp)⟩, Below.refl _ _⟩
  · have HC := Lib.hid hc
    clear hc
    by_cases h0 : left - os.length < 0
    · go_enter Try.func51, Try.ntmps51
      go_wp2
      go_ret
      exact ⟨.inl rfl, Below.refl _ _⟩
    · have hn : os.length ≤ 1048576 := by omega
      clear hm
      go_enter Try.func51, Try.ntmps51
      go_wp2

      go_loopw [1, 5] (fun l i wr => ∃ (k : Nat) (r : Int), k ≤ os.length ∧ i = .int .i64 k ∧ 0 ≤ r ∧ r ≤ left ∧ l = .int .i64 r ∧ Below w.heap.size w wr) (fun _ i _ => os.length - (intOf i).toNat)
      case atStart => exact ⟨0, left - os.length, Nat.zero_le _, rfl, by omega, by omega, rfl, Below.refl _ _⟩
      case round =>
        obtain ⟨k, r, hk, rfl, hr0, hr1, rfl, hnx⟩ := hrel
        by_cases hlt : k < os.length
        · obtain ⟨o, ho⟩ : ∃ o, o = os.getD k zMsg := ⟨_, rfl⟩
          have hrg : wr.rangeAt b (off + k * 13) (EMsg.L o) := by rw [ho]; exact rangeAt_below (HC.out k hlt) hnx (rangeAt_ltG EMsg (HC.out k hlt))
          have HR := Lib.hid hrg
          clear hrg
          have hs := HT.out k hlt
          rw [← ho] at hs
          have HS := Lib.hid hs
          clear hs
          have HO := Lib.hid ho
          clear ho
          rcases szV_cases o.o r hr0 with hv | ⟨hv0, hv1⟩
          · have HZ := Lib.hid (fun w => szMessage o r w HS.out ⟨hr0, by omega⟩)
            rw [hv] at HZ
            clear hv
            go_wp2_with (refine load_lMsg rfl _ rfl rfl HR.out ?_)
            refine (HZ.out _).mono ?_
            rintro e w1 ⟨rfl, hb1⟩
            go_wp2
            go_ret
            exact ⟨.inl rfl, hnx.trans (hb1.mono hnx.size)⟩
          · have HZ := Lib.hid (fun w => szMessage o r w HS.out ⟨hr0, by omega⟩)
            generalize szV o.o r = r' at HZ hv0 hv1
            go_wp2_with (refine load_lMsg rfl _ rfl rfl HR.out ?_)
            refine (HZ.out _).mono ?_
            rintro e w1 ⟨rfl, hb1⟩
            go_wp2
            go_roundw
            case rel => exact ⟨k + 1, r', by omega, by go_num, hv0, by omega, rfl, hnx.trans (hb1.mono hnx.size)⟩
            case measure => simp [intOf]; omega
        · obtain rfl : k = os.length := by omega
          go_wp2
          go_ret
          exact ⟨.inr ⟨r, hr0, hr1, by omega, rfl⟩, hnx⟩

/-- The value returned is a slice over a new block with just the elements xs. -/
def NewMsg (w : World) (xs : List MsgV) (e : Ending) (w' : World) : Prop :=
  ∃ b, e = .returned (.slice (some ⟨b, 0, none⟩) xs.length xs.length) ∧ w.heap.size ≤ b ∧ OwnG EMsg 88 w' b xs.length xs.length (fun i => xs.getD i zMsg) ∧ Below w.heap.size w w'
def ZMsg : Array Value := #[.int .i64 zMsg.o.i, .int .i64 zMsg.o.j, .int .i64 zMsg.o.k, .int .i64 zMsg.o.ts, .int .i64 zMsg.o.ta, .int .i64 zMsg.o.fs, .int .i64 zMsg.o.fa, .int .i64 zMsg.o.ns, .int .i64 zMsg.o.na, .int .i64 zMsg.o.v, .bool zMsg.o.en, .string zMsg.o.tx, .int .i64 zMsg.p]
theorem run_make_Msg (n : Nat) (h : n ≤ 1048576) (w : World) :
    (Instr.makeSlice 48 (.int .i64 (n : Int)) (.int .i64 (n : Int))).run Try.prog w = .ok (.slice (some ⟨w.heap.size, 0, none⟩) n n) (w.alloc (.cells (madeCells ZMsg (n * 13)) 88)) := by
  obtain ⟨i, hi, hz, hs, hb⟩ := info_parts info_Message
  have := run_make (P := Try.prog) w 48 88 i _ Try.underlying48 hi hz .i64 .i64 n n (by omega) (Int.le_refl _) (by rw [hb]; omega) (by omega)
  rw [hs] at this
  simpa [zMsg, ZMsg, Value.cells] using this

/-- A box of a message of the call's own. -/
abbrev BoxM (w : World) (k : Nat) (x : MsgV) : Prop := OwnG EMsg 88 w k 1 1 (fun _ => x)
theorem boxM_new (w : World) (C : Array Value) (x : MsgV) (hC : C.toList = EMsg.L x) : BoxM (w.alloc (.cells C 88)) w.heap.size x := by
  have hs : C.size = 13 := by rw [← Array.length_toList, hC]; rfl
  refine ⟨fun i => (EMsg.L x).getD i undef, ⟨_, heap_alloc_new w _, by rw [hs]; rfl, fun i hi => ?_⟩, Nat.le_refl _, fun k hk j hj => ?_⟩
  · have hi' : i < C.size := by rw [hs]; exact hi
    show C[i]? = some ((EMsg.L x).getD i undef)
    rw [← hC, List.getD_eq_getElem?_getD, Array.getElem?_toList, Array.getElem?_eq_getElem hi']
    rfl
  · obtain rfl : k = 0 := by omega
    rw [Nat.zero_mul, Nat.zero_add]
theorem boxM_at {w : World} {k : Nat} {x : MsgV} (h : BoxM w k x) : w.rangeAt k 0 (EMsg.L x) := by
  have := h.range (k := 0) (by omega)
  rwa [Nat.zero_mul] at this
theorem boxM_there {w : World} {k : Nat} {x : MsgV} (h : BoxM w k x) (j m : Nat) (hj : j + m ≤ 13) : w.there k j m := by
  have := h.there (k := 0) (by omega) j m hj
  rwa [Nat.zero_mul, Nat.zero_add] at this
theorem boxM_put {w : World} {k : Nat} {x : MsgV} (h : BoxM w k x) (o : Nat) (vs : List Value) (y : MsgV) (hy : ∀ j, j < 13 → (EMsg.L y).getD j undef = if o ≤ j ∧ j < o + vs.length then vs.getD (j - o) undef else (EMsg.L x).getD j undef) :
    BoxM (w.setCells k o vs) k y := by
  obtain ⟨g, hr, hn, hg⟩ := h
  refine ⟨_, rowIs_setCells vs o w g hr, hn, fun i hi j hj => ?_⟩
  obtain rfl : i = 0 := by omega
  have h0 := hg 0 (by omega) j hj
  rw [Nat.zero_mul, Nat.zero_add] at h0
  show (if o ≤ 0 * 13 + j ∧ 0 * 13 + j < o + vs.length then vs.getD (0 * 13 + j - o) undef else g (0 * 13 + j)) = _
  rw [Nat.zero_mul, Nat.zero_add, hy j hj, h0]
/-- A world in which block k alone was written. -/
def Only (k : Nat) (w w' : World) : Prop := w'.heap.size = w.heap.size ∧ (∀ j, j ≠ k → w'.heap[j]? = w.heap[j]?) ∧ Below k w w'
theorem only_set (k o : Nat) (vs : List Value) (w : World) : Only k w (w.setCells k o vs) := ⟨size_setCells _ _ _ _, fun j hj => heap_setCells _ _ hj _ _ _, below_setCells (Nat.le_refl _) _ _ _ (Below.refl _ _)⟩
theorem storeOpM {ops : Array Oper} {rest : List Oper} {op : Oper} {a : Act} {w : World} {Q : Exit → Act → World → Prop} (hgd : op.guard = none) (x y : Operand) (ho : op.op = .store 63 x y) {b : Nat} {v : OpV} {z : MsgV}
    (hx : a.eval x = .pointer (some ⟨b, 0, none⟩)) (hy : a.eval y = .agg #[.int .i64 v.i, .int .i64 v.j, .int .i64 v.k, .int .i64 v.ts, .int .i64 v.ta, .int .i64 v.fs, .int .i64 v.fa, .int .i64 v.ns, .int .i64 v.na, .int .i64 v.v, .bool v.en, .string v.tx]) (h : BoxM w b z) (K : ∀ w', BoxM w' b ⟨v, z.p⟩ → Only b w w' → wpList Try.prog ops Q rest (a.put op.dst undef) w') : wpList Try.prog ops Q (op :: rest) a w :=
  storeI hgd x y ho hx hy (boxM_there h 0 12 (by omega)) (K _ (boxM_put h 0 (opL v) ⟨v, z.p⟩ (fun j hj => by
    rcases (show j < 12 ∨ j = 12 by omega) with h1 | rfl
    · rw [if_pos ⟨Nat.zero_le _, by rw [opL_len]; omega⟩]
      show (LMsg ⟨v, z.p⟩).getD j undef = _
      rw [lMsg, Nat.sub_zero, List.getD_eq_getElem?_getD, List.getD_eq_getElem?_getD, List.getElem?_append_left (by rw [opL_len]; exact h1)]
    · rw [if_neg (by rw [opL_len]; omega)]
      rfl)) (only_set _ _ _ _))
theorem storeM {ops : Array Oper} {rest : List Oper} {op : Oper} {a : Act} {w : World} {Q : Exit → Act → World → Prop} (hgd : op.guard = none) (x y : Operand) (ho : op.op = .store 88 x y) {b : Nat} {v z : MsgV}
    (hx : a.eval x = .pointer (some ⟨b, 0, none⟩)) (hy : a.eval y = .agg #[.int .i64 v.o.i, .int .i64 v.o.j, .int .i64 v.o.k, .int .i64 v.o.ts, .int .i64 v.o.ta, .int .i64 v.o.fs, .int .i64 v.o.fa, .int .i64 v.o.ns, .int .i64 v.o.na, .int .i64 v.o.v, .bool v.o.en, .string v.o.tx, .int .i64 v.p]) (h : BoxM w b z) (K : ∀ w', BoxM w' b v → Only b w w' → wpList Try.prog ops Q rest (a.put op.dst undef) w') : wpList Try.prog ops Q (op :: rest) a w :=
  store_iMsg hgd x y ho hx hy (boxM_there h 0 13 (by omega)) (K _ (boxM_put h 0 (EMsg.L v) v (fun j hj => by
    rw [if_pos ⟨Nat.zero_le _, by rw [EMsg.len]; show j < 0 + 13; omega⟩, Nat.sub_zero])) (only_set _ _ _ _))
theorem run_store1 {P : Program} (w : World) (b o : Nat) (ty : TypeId) (v : Value) (h1 : v.oneCell' = true) (hc : (w.cell? ⟨b, o, none⟩).isSome = true) (hf : w.frozen? ⟨b, o, none⟩ = false) (hi : (P.info? ty).map (·.size) = some 1) :
    (storeVar ty ⟨b, o, none⟩ v).run P w = .ok () (w.setCell ⟨b, o, none⟩ v) := by
  have := run_storeCells_cells (P := P) b o [v] 0 w (fun j hj => by have : j = 0 := by simpa using hj
                                                                    subst this; exact hc) (fun j hj => by have : j = 0 := by simpa using hj
                                                                                                          subst this; exact hf) (fun x hx => by simp at hx; subst hx; exact h1)
  have hcl : v.cells = #[v] := by cases v <;> first | rfl | cases h1
  cases hq : P.info? ty with
  | none => simp [hq] at hi
  | some i =>
    have hs : i.size = 1 := by simpa [hq] using hi
    simp only [Nat.add_zero] at this
    simp [storeVar, sizeOf, typeInfo, hq, hcl, hs, this, World.setCells]
/-- One cell is written. -/
theorem store1 {ops : Array Oper} {rest : List Oper} {op : Oper} {a : Act} {w : World} {Q : Exit → Act → World → Prop} (hgd : op.guard = none) (T : TypeId) (x y : Operand) (ho : op.op = .store T x y) {b j : Nat} {u : Value}
    (hx : a.eval x = .pointer (some ⟨b, j, none⟩)) (hy : a.eval y = u) (hu : u.oneCell' = true) (hsz : (Try.prog.info? T).map (·.size) = some 1) (h : w.there b j 1)
    (K : ∀ w', w' = w.setCell ⟨b, j, none⟩ u → wpList Try.prog ops Q rest (a.put op.dst undef) w') : wpList Try.prog ops Q (op :: rest) a w :=
  wpList_plain hgd fun _ hK => by
    obtain ⟨h1, h2⟩ := h 0 (by omega)
    unfold Oper.wp execOp
    simp only [ho, hx, hy, Instr.storeAt, Instr.sureAddr, Sem.run_bind, Sem.run_pure, Result.andThen_ok, run_store1 (P := Try.prog) w b j T u hu h1 h2 hsz]
    exact hK _ _ (K _ rfl)

theorem sz_int : (Try.prog.info? 3).map (·.size) = some 1 := by kernel_rfl
theorem storeP {ops : Array Oper} {rest : List Oper} {op : Oper} {a : Act} {w : World} {Q : Exit → Act → World → Prop} (hgd : op.guard = none) (x y : Operand) (ho : op.op = .store 3 x y) {b : Nat} {p : Int} {z : MsgV}
    (hx : a.eval x = .pointer (some ⟨b, 12, none⟩)) (hy : a.eval y = .int .i64 p) (h : BoxM w b z) (K : ∀ w', BoxM w' b ⟨z.o, p⟩ → Only b w w' → wpList Try.prog ops Q rest (a.put op.dst undef) w') : wpList Try.prog ops Q (op :: rest) a w :=
  store1 hgd 3 x y ho hx hy rfl sz_int (boxM_there h 12 1 (by omega)) (fun w' hw' => by
    have e : w' = w.setCells b 12 [.int .i64 p] := hw'
    subst e
    exact K _ (boxM_put h 12 [.int .i64 p] ⟨z.o, p⟩ (fun j hj => by
      rcases (show j < 12 ∨ j = 12 by omega) with h1 | rfl
      · rw [if_neg (by omega)]
        show (LMsg ⟨z.o, p⟩).getD j undef = (LMsg z).getD j undef
        rw [lMsg, lMsg, List.getD_eq_getElem?_getD, List.getD_eq_getElem?_getD, List.getElem?_append_left (by rw [opL_len]; exact h1), List.getElem?_append_left (by rw [opL_len]; exact h1)]
      · rw [if_pos ⟨Nat.le_refl _, by simp⟩]
        rfl)) (only_set _ _ _ _))
theorem BoxM.only {w w' : World} {k b : Nat} {x : MsgV} (h : BoxM w k x) (ho : Only b w w') (hne : k ≠ b) : BoxM w' k x := h.of_block (ho.2.1 k hne)
abbrev CMsg (w : World) (b : Nat) (x : MsgV) : Prop := C12 w b 0 x.o ∧ w.cell? ⟨b, 12, none⟩ = some (.int .i64 x.p)
theorem cMsg0 {w : World} {b : Nat} {x : MsgV} (h : w.rangeAt b 0 (EMsg.L x)) : CMsg w b x := ⟨c12 (msg_op h), by have := msg_p h; rwa [Nat.zero_add] at this⟩

set_option maxRecDepth 100000 in
set_option maxHeartbeats 4000000 in
theorem toMessage (x : MsgV) (w : World) : Calls Try.prog 82 #[.agg #[.int .i64 x.o.i, .int .i64 x.o.j, .int .i64 x.o.k, .int .i64 x.o.ts, .int .i64 x.o.ta, .int .i64 x.o.fs, .int .i64 x.o.fa, .int .i64 x.o.ns, .int .i64 x.o.na, .int .i64 x.o.v, .bool x.o.en, .string x.o.tx, .int .i64 x.p]] w fun e w' => e = .returned (.agg #[.int .i64 x.o.i, .int .i64 x.o.j, .int .i64 x.o.k, .int .i64 x.o.ts, .int .i64 x.o.ta, .int .i64 x.o.fs, .int .i64 x.o.fa, .int .i64 x.o.ns, .int .i64 x.o.na, .int .i64 x.o.v, .bool x.o.en, .string x.o.tx, .int .i64 x.p]) ∧ Below w.heap.size w w' := by
  obtain ⟨w0, hw0⟩ : ∃ w0, w0 = (((w.alloc (.cells #[.int .i64 x.o.i, .int .i64 x.o.j, .int .i64 x.o.k, .int .i64 x.o.ts, .int .i64 x.o.ta, .int .i64 x.o.fs, .int .i64 x.o.fa, .int .i64 x.o.ns, .int .i64 x.o.na, .int .i64 x.o.v, .bool x.o.en, .string x.o.tx, .int .i64 x.p] 114)).alloc (.cells #[.int .i64 0, .int .i64 0, .int .i64 0, .int .i64 0, .int .i64 0, .int .i64 0, .int .i64 0, .int .i64 0, .int .i64 0, .int .i64 0, .bool false, .string ⟨#[]⟩, .int .i64 0] 88)).alloc (.cells #[.int .i64 0, .int .i64 0, .int .i64 0, .int .i64 0, .int .i64 0, .int .i64 0, .int .i64 0, .int .i64 0, .int .i64 0, .int .i64 0, .bool false, .string ⟨#[]⟩, .int .i64 0] 88)) := ⟨_, rfl⟩
  have hz : w0.heap.size = w.heap.size + 3 := by rw [hw0]; simp
  have hB : Below w.heap.size w w0 := by rw [hw0]; exact (((Below.refl _ _).alloc (Nat.le_refl _) _).alloc (by simp) _).alloc (by simp; omega) _
  have hR : w0.rangeAt w.heap.size 0 (EMsg.L x) := by
    rw [hw0]
    exact rangeAt_below (rangeAt_below (boxM w x _) ((Below.refl _ _).alloc (Nat.le_refl _) _) (by simp)) ((Below.refl _ _).alloc (Nat.le_refl _) _) (by simp; omega)
  have hb1 : BoxM w0 (w.heap.size + 1) zMsg := by
    have h := boxM_new (w.alloc (.cells #[.int .i64 x.o.i, .int .i64 x.o.j, .int .i64 x.o.k, .int .i64 x.o.ts, .int .i64 x.o.ta, .int .i64 x.o.fs, .int .i64 x.o.fa, .int .i64 x.o.ns, .int .i64 x.o.na, .int .i64 x.o.v, .bool x.o.en, .string x.o.tx, .int .i64 x.p] 114)) #[.int .i64 0, .int .i64 0, .int .i64 0, .int .i64 0, .int .i64 0, .int .i64 0, .int .i64 0, .int .i64 0, .int .i64 0, .int .i64 0, .bool false, .string ⟨#[]⟩, .int .i64 0] zMsg rfl
    rw [show (w.alloc (.cells #[.int .i64 x.o.i, .int .i64 x.o.j, .int .i64 x.o.k, .int .i64 x.o.ts, .int .i64 x.o.ta, .int .i64 x.o.fs, .int .i64 x.o.fa, .int .i64 x.o.ns, .int .i64 x.o.na, .int .i64 x.o.v, .bool x.o.en, .string x.o.tx, .int .i64 x.p] 114)).heap.size = w.heap.size + 1 by simp] at h
    rw [hw0]
    exact h.below ((Below.refl _ _).alloc (Nat.le_refl _) _)
  have hb2 : BoxM w0 (w.heap.size + 1 + 1) zMsg := by
    have h := boxM_new ((w.alloc (.cells #[.int .i64 x.o.i, .int .i64 x.o.j, .int .i64 x.o.k, .int .i64 x.o.ts, .int .i64 x.o.ta, .int .i64 x.o.fs, .int .i64 x.o.fa, .int .i64 x.o.ns, .int .i64 x.o.na, .int .i64 x.o.v, .bool x.o.en, .string x.o.tx, .int .i64 x.p] 114)).alloc (.cells #[.int .i64 0, .int .i64 0, .int .i64 0, .int .i64 0, .int .i64 0, .int .i64 0, .int .i64 0, .int .i64 0, .int .i64 0, .int .i64 0, .bool false, .string ⟨#[]⟩, .int .i64 0] 88)) #[.int .i64 0, .int .i64 0, .int .i64 0, .int .i64 0, .int .i64 0, .int .i64 0, .int .i64 0, .int .i64 0, .int .i64 0, .int .i64 0, .bool false, .string ⟨#[]⟩, .int .i64 0] zMsg rfl
    rw [← hw0, show ((w.alloc (.cells #[.int .i64 x.o.i, .int .i64 x.o.j, .int .i64 x.o.k, .int .i64 x.o.ts, .int .i64 x.o.ta, .int .i64 x.o.fs, .int .i64 x.o.fa, .int .i64 x.o.ns, .int .i64 x.o.na, .int .i64 x.o.v, .bool x.o.en, .string x.o.tx, .int .i64 x.p] 114)).alloc (.cells #[.int .i64 0, .int .i64 0, .int .i64 0, .int .i64 0, .int .i64 0, .int .i64 0, .int .i64 0, .int .i64 0, .int .i64 0, .int .i64 0, .bool false, .string ⟨#[]⟩, .int .i64 0] 88)).heap.size = w.heap.size + 2 by simp] at h
    exact h
  have HT := Lib.hid (toOp x.o w0)
  have HR := Lib.hid hR
  have H1 := Lib.hid hb1
  have H2 := Lib.hid hb2
  have HB := Lib.hid hB
  have HW := Lib.hid hw0
  have HZ := Lib.hid hz
  have HRO := Lib.hid (msg_op hR)
  clear hR hb1 hb2 hB hw0 hz
  go_enter Try.func82, Try.ntmps82
  go_wp2_with (first | (rw [← HW.out]; refine loadL rfl _ rfl rfl HRO.out ?_) | (refine loadL rfl _ rfl rfl HRO.out ?_))
  refine HT.out.mono ?_
  rintro e w1 ⟨rfl, b1⟩
  have hz1 : w.heap.size + 3 ≤ w1.heap.size := by have := b1.size; have := HZ.out; omega
  have G1 := Lib.hid (H1.out.below b1)
  have G2 := Lib.hid (H2.out.below b1)
  have GR := Lib.hid (rangeAt_below HR.out b1 (by have := HZ.out; omega))
  have GB := Lib.hid (HB.out.trans (b1.mono HB.out.size))
  clear b1 HR H1 H2 HB HW HZ HRO HT
  go_wp2_with (first
    | (with_reducible refine storeOpM (v := x.o) rfl _ _ rfl rfl rfl G2.out ?_
       intro w2 hb2 o2
       have K2 := Lib.hid hb2
       have K1 := Lib.hid (BoxM.only G1.out o2 (by omega))
       have KB := Lib.hid (GB.out.trans (o2.2.2.mono (by omega)))
       have cp : w2.cell? ⟨w.heap.size, 12, none⟩ = some (.int .i64 x.p) := by
         have := msg_p (rangeAt_block GR.out (o2.2.1 _ (by omega)))
         rwa [Nat.zero_add] at this
       clear hb2 o2)
    | (with_reducible refine storeP (p := x.p) rfl _ _ rfl rfl rfl K2.out ?_
       intro w3 hb3 o3
       have L2 := Lib.hid (boxM_at hb3)
       have L1 := Lib.hid (BoxM.only K1.out o3 (by omega))
       have LB := Lib.hid (KB.out.trans (o3.2.2.mono (by omega)))
       clear hb3 o3 cp)
    | (with_reducible refine load_iMsg (y := ⟨x.o, x.p⟩) rfl _ rfl rfl L2.out ?_)
    | (with_reducible refine storeM (v := x) rfl _ _ rfl rfl rfl L1.out ?_
       intro w4 hb4 o4
       obtain ⟨⟨f0, f1, f2, f3, f4, f5, f6, f7, f8, f9, f10, f11⟩, f12⟩ := cMsg0 (boxM_at hb4)
       have MB := Lib.hid (LB.out.trans (o4.2.2.mono (by omega)))
       clear hb4 o4))
  exact bodyPost_ret (v := .agg #[.int .i64 x.o.i, .int .i64 x.o.j, .int .i64 x.o.k, .int .i64 x.o.ts, .int .i64 x.o.ta, .int .i64 x.o.fs, .int .i64 x.o.fa, .int .i64 x.o.ns, .int .i64 x.o.na, .int .i64 x.o.v, .bool x.o.en, .string x.o.tx, .int .i64 x.p]) (by simp [results, Try.results82, go_sem, f0, f1, f2, f3, f4, f5, f6, f7, f8, f9, f10, f11, f12]) rfl ⟨rfl, MB.out⟩

set_option maxRecDepth 100000 in
theorem toMessageS (a : Option Addr) (c : Nat) (xs : List MsgV) (w : World) (hr : RdG EMsg w a xs) (hl : xs.length ≤ 1048576) :
    Calls Try.prog 53 #[.slice a xs.length c] w (NewMsg w xs) := by
  have hmk := run_make_Msg xs.length hl
  have made : OwnG EMsg 88 (w.alloc (.cells (madeCells ZMsg (xs.length * 13)) 88)) w.heap.size xs.length xs.length (fun _ => zMsg) := OwnG.made (E := EMsg) (C := ZMsg) rfl
  rcases hr with rfl | ⟨b, off, rfl, hc⟩
  · simp only [List.length_nil, Int.natCast_zero] at hmk made ⊢
    have HM := Lib.hid made
    clear made
    go_enter Try.func53, Try.ntmps53
    go_wp2
    go_rounds 1
    go_ret
    exact ⟨w.heap.size, rfl, Nat.le_refl _, HM.out.congr fun k hk => by omega, (Below.refl _ _).alloc (Nat.le_refl _) _⟩
  · have HC := Lib.hid hc
    have HM := Lib.hid made
    clear hc made
    go_enter Try.func53, Try.ntmps53
    go_wp2
    clear hmk
    go_loopw [4] (fun i wr => ∃ k : Nat, k ≤ xs.length ∧ i = .int .i64 k ∧ OwnG EMsg 88 wr w.heap.size xs.length xs.length (fun j => if j < k then xs.getD j zMsg else zMsg) ∧ Below w.heap.size w wr) (fun i _ => xs.length - (intOf i).toNat)
    case atStart =>
      exact ⟨0, Nat.zero_le _, rfl, HM.out.congr fun k hk => by simp, (Below.refl _ _).alloc (Nat.le_refl _) _⟩
    case round =>
      obtain ⟨k, hk, rfl, hown, hnx⟩ := hrel
      by_cases hlt : k < xs.length
      · obtain ⟨x, hx⟩ : ∃ x, x = xs.getD k zMsg := ⟨_, rfl⟩
        have HR := Lib.hid (by rw [hx]; exact rangeAt_below (HC.out k hlt) hnx (rangeAt_ltG EMsg (HC.out k hlt)) : wr.rangeAt b (off + k * 13) (EMsg.L x))
        have HO := Lib.hid hx
        clear hx
        go_wp2_with (refine load_lMsg rfl _ rfl rfl HR.out ?_)
        refine (toMessage x _).mono ?_
        rintro e w1 ⟨rfl, hb1⟩
        have hown1 := hown.below hb1
        have hth : w1.there w.heap.size (k * 13) 13 := hown1.there hlt 0 13 (Nat.le_refl _)
        have HTH := Lib.hid hth
        clear hth
        go_wp2_with (with_reducible refine store_iMsg (v := x) (b := w.heap.size) (o := k * 13) rfl _ _ rfl rfl rfl HTH.out ?_)
        go_roundw
        case rel =>
          refine ⟨k + 1, by omega, by go_num, (hown1.put hlt x).congr fun i hi => ?_, below_setCells (Nat.le_refl _) _ _ _ (hnx.trans (hb1.mono hnx.size))⟩
          by_cases e : i = k
          · subst e; simp [HO.out]
          · by_cases e2 : i < k
            · simp [e, e2, Nat.lt_succ_of_lt e2]
            · have : ¬ i < k + 1 := by omega
              simp [e, e2, this]
        case measure => simp [intOf]; omega
      · obtain rfl : k = xs.length := by omega
        go_wp2
        go_ret
        exact ⟨w.heap.size, rfl, Nat.le_refl _, hown.congr fun i hi => by simp [hi], hnx⟩



end Go.Proofs.Ytdbnflgckcjlcaa.MsA
