/-
  The walk of the law FnExactValidLog: it returns true at every slice of operations. No condition.
-/
import Derived.Test.YtdbnflgckcjlcaaK2
import Derived.Test.YtdbnflgckcjlcaaOpH
import Derived.Test.YtdbnflgckcjlcaaK3
import Derived.Maps.AppendAt
import Derived.Outline
import Derived.Laws.BytesArg
import Derived.Laws.EntriesVeiled
import Derived.WalkSpells
import Derived.RegionTactic
import Derived.BigRegion
namespace Go.Proofs.Ytdbnflgckcjlcaa.LgI
open Go.RowKit Go.Proofs.Ytdbnflgckcjlcaa.Base Go.Proofs.Ytdbnflgckcjlcaa.St Go.Proofs.Ytdbnflgckcjlcaa.StB Go.Proofs.Ytdbnflgckcjlcaa.OpA Go.Proofs.Ytdbnflgckcjlcaa.OpW Go.Proofs.Ytdbnflgckcjlcaa.OpB Go.Proofs.Ytdbnflgckcjlcaa.OpT Go.Proofs.Ytdbnflgckcjlcaa.LgA Go.Proofs.Ytdbnflgckcjlcaa.LgB Go.Proofs.Ytdbnflgckcjlcaa.LgC Go.Proofs.Ytdbnflgckcjlcaa.LgD Go.Proofs.Ytdbnflgckcjlcaa.LgE Go.Proofs.Ytdbnflgckcjlcaa.LgF Go.Proofs.Ytdbnflgckcjlcaa.LgG Go.Proofs.Ytdbnflgckcjlcaa.LgH
set_option linter.unusedVariables false

theorem svop : SVop := fun o w hs => OpH.spec_validOp o w hs
theorem ivop : IVop := fun o w hs => OpH.impl_ValidOp o w hs

end Go.Proofs.Ytdbnflgckcjlcaa.LgI

/-
  Growing slices of operations by append; logPrefix, LogPrefix and LogMissing of the model. For slices that read as a list of at most 2^20 operations; the logs valid where it is said.
-/
namespace Go.Proofs.Ytdbnflgckcjlcaa.LgP
open Go.RowKit Go.Proofs.Ytdbnflgckcjlcaa.Base Go.Proofs.Ytdbnflgckcjlcaa.St Go.Proofs.Ytdbnflgckcjlcaa.StB Go.Proofs.Ytdbnflgckcjlcaa.Vec Go.Proofs.Ytdbnflgckcjlcaa.Row Go.Proofs.Ytdbnflgckcjlcaa.VecA Go.Proofs.Ytdbnflgckcjlcaa.OpA Go.Proofs.Ytdbnflgckcjlcaa.OpB Go.Proofs.Ytdbnflgckcjlcaa.LgA Go.Proofs.Ytdbnflgckcjlcaa.LgB Go.Proofs.Ytdbnflgckcjlcaa.LgC Go.Proofs.Ytdbnflgckcjlcaa.LgF Go.Proofs.Ytdbnflgckcjlcaa.LgI
set_option linter.unusedVariables false

/-- The slice value v is of the call's own (from block lo on) and holds the operations os. -/
def OwnsO (w : World) (lo : Nat) (v : Value) (os : List OpV) : Prop := w.ownsRow lo 63 12 v os.length (flat os)
theorem ownsO_nil (w : World) (lo : Nat) : OwnsO w lo (.slice none 0 0) [] := World.ownsRow_nil _ _ _ _
theorem ownsO_empty (w : World) (lo : Nat) (hl : lo ≤ w.heap.size) : OwnsO (w.alloc (.cells #[] 63)) lo (.slice (some ⟨w.heap.size, 0, none⟩) 0 0) [] :=
  ⟨rfl, .inr ⟨w.heap.size, 0, #[], rfl, hl, heap_alloc_new _ _, Nat.le_refl _, Nat.zero_le _, rfl, rfl⟩⟩
theorem OwnsO.below {w w' : World} {lo : Nat} {v : Value} {os : List OpV} (h : OwnsO w lo v os) (hb : Below w.heap.size w w') : OwnsO w' lo v os := by
  unfold OwnsO at h ⊢
  exact h.kept (row := none) ⟨hb.os, hb.tape, hb.output, hb.size, fun k hk _ => hb.block k hk⟩ (by cases v.ownBlock <;> simp)
theorem OwnsO.gives {w w' : World} {v : Value} {os : List OpV} (h : OwnsO w' w.heap.size v os) (hb : Below w.heap.size w w') : GivesO w os (.returned v) w' := by
  obtain ⟨a, c, rfl, hr⟩ := ownedO h
  exact ⟨a, c, rfl, hr, hb⟩

theorem info104 : (Try.prog.info? 63).map (fun i => (i.zero, i.size, i.bytes)) = some (some (.agg #[.int .i64 zop.i, .int .i64 zop.j, .int .i64 zop.k, .int .i64 zop.ts, .int .i64 zop.ta, .int .i64 zop.fs, .int .i64 zop.fa, .int .i64 zop.ns, .int .i64 zop.na, .int .i64 zop.v, .bool zop.en, .string zop.tx]), 12, 104) := by kernel_rfl
theorem news (w0 : World) (o : OpV) : ∀ j u, (opL o)[j]? = some u → (w0.alloc (.cells #[.int .i64 o.i, .int .i64 o.j, .int .i64 o.k, .int .i64 o.ts, .int .i64 o.ta, .int .i64 o.fs, .int .i64 o.fa, .int .i64 o.ns, .int .i64 o.na, .int .i64 o.v, .bool o.en, .string o.tx] 63)).cell? ((⟨w0.heap.size, 0, none⟩ : Addr).add j) = some u := by
  intro j u hu
  rw [Addr.add_mid, Nat.zero_add, World.cell?_alloc_at _ _ _ _ rfl]
  rw [← hu]
  show ((opL o).toArray)[j]? = (opL o)[j]?
  simp

/-- append of one operation that lies in a new block. -/
theorem appendO {ops : Array Oper} {rest : List Oper} {op : Oper} {a : Act} {w0 : World} {Q : Exit → Act → World → Prop} (hgd : op.guard = none) (s x : Operand)
    (ho : op.op = .call { callee := .builtin .append, args := #[s, x], argTypes := #[29, 29] }) {lo : Nat} {v : Value} {os : List OpV} {o : OpV} {c : Nat}
    (hs : a.eval s = v) (hx : a.eval x = .slice (some ⟨w0.heap.size, 0, none⟩) 1 c) (hown : OwnsO w0 lo v os) (hlen : os.length ≤ 1048576) (hlo : lo ≤ w0.heap.size)
    (k : ∀ v' w', OwnsO w' lo v' (os ++ [o]) → Below lo w0 w' → lo ≤ w'.heap.size → wpList Try.prog ops Q rest (a.put op.dst v') w') :
    wpList Try.prog ops Q (op :: rest) a (w0.alloc (.cells #[.int .i64 o.i, .int .i64 o.j, .int .i64 o.k, .int .i64 o.ts, .int .i64 o.ta, .int .i64 o.fs, .int .i64 o.fa, .int .i64 o.ns, .int .i64 o.na, .int .i64 o.v, .bool o.en, .string o.tx] 63)) := by
  obtain ⟨i0, hi, hz0, hz1, hz2⟩ := info_parts info104
  refine wpList_append_own _ hgd s x 29 ho lo 63 i0 _ 12 104 Try.underlying29 hi hz0 hz1 hz2 rfl (by omega) v os.length (flat os) hs (World.ownsRow.alloc hown _) ⟨w0.heap.size, 0, none⟩ 1 c (opL o) hx rfl (news w0 o) ?_ ?_ ?_ ?_ ?_
  · intro u hu
    exact flat_one' [o] u (by rw [flat_one]; exact hu)
  · unfold maxLen; omega
  · omega
  · simp; omega
  · intro v' w' h1 h2 _
    refine k v' w' ?_ ((((Below.refl lo w0).alloc hlo _)).grown h2 (by simp; omega) (fun k hk => ?_)) (Nat.le_trans hlo (Nat.le_trans (by simp) h2.size))
    · unfold OwnsO
      rw [List.length_append, flat_append, flat_one]
      exact h1
    · exact (World.ownsRow.lt (show w0.ownsRow lo 63 12 v os.length (flat os) from hown) k hk).1

/-- The first k operations that pass. -/
def keepTo (P : OpV → Bool) (os : List OpV) : Nat → List OpV
  | 0 => []
  | k + 1 => if P (os.getD k zop) then keepTo P os k ++ [os.getD k zop] else keepTo P os k
theorem keepTo_len (P : OpV → Bool) (os : List OpV) (k : Nat) : (keepTo P os k).length ≤ k := by
  induction k with
  | zero => exact Nat.le_refl _
  | succ k ih => rw [keepTo]; split <;> first | (simp; omega) | omega
/-- Operation o is contained in the vector zs. -/
def con (zs : List Int) (o : OpV) : Bool := decide (o.i ≤ zs.getD o.j.toNat 0)
theorem vst_of {os : List OpV} (h : allTo os os.length = true) {k : Nat} (hk : k < os.length) : vst (os.getD k zop).i (os.getD k zop).j = true := by
  unfold allTo at h
  rw [List.all_eq_true] at h
  have := h k (by simpa using hk)
  unfold vop at this
  simp only [Bool.and_eq_true] at this
  exact this.1
theorem allTo_of {os : List OpV} (h : vlog os = true) : allTo os os.length = true := by
  unfold vlog at h
  simp only [Bool.and_eq_true] at h
  exact h.2.1
theorem len_of {os : List OpV} (h : vlog os = true) : os.length ≤ 40 := by
  unfold vlog at h
  simp only [Bool.and_eq_true, decide_eq_true_eq] at h
  exact h.1

end Go.Proofs.Ytdbnflgckcjlcaa.LgP

/-
  markText of the exact laws: the text of a mark. For numbers from 1 to 2^40.
-/
namespace Go.Proofs.Ytdbnflgckcjlcaa.LgM
open Go.RowKit Go.Proofs.Ytdbnflgckcjlcaa.Base Go.Proofs.Ytdbnflgckcjlcaa.St Go.Proofs.Ytdbnflgckcjlcaa.StB Go.Proofs.Ytdbnflgckcjlcaa.OpA Go.Proofs.Ytdbnflgckcjlcaa.OpB Go.Proofs.Ytdbnflgckcjlcaa.LgA Go.Proofs.Ytdbnflgckcjlcaa.LgB Go.Proofs.Ytdbnflgckcjlcaa.LgC
set_option linter.unusedVariables false

/-- One byte, laid in a slice of its own, as a text. -/
theorem conv1 (b : Nat) (m : Int) (W : World) (h : W.cell? ⟨b, 0, none⟩ = some (.int .u8 m)) :
    (convert 24 9 (.slice (some ⟨b, 0, none⟩) 1 1)).run Try.prog W = .ok (.string (strOfNums [m])) W := by
  have hcell : ∀ i, i < 1 → W.cell? ⟨b, 0 + i, none⟩ = some (.int .u8 ([m].getD i 0)) := fun i hi => by
    have h0 : i = 0 := by omega
    rw [h0]
    exact h
  exact run_convert_bytes_arg W 24 5 Try.underlying24 Try.underlying5 b 0 1 1 [m] rfl hcell 9 Try.underlying9
attribute [local go_sem] conv1

/-- The byte of a number's last digit, as the program reckons it. -/
def lastB (n : Nat) : ByteArray := strOfNums [48 + (n : Int) % 10]
theorem lastB_size (n : Nat) : (lastB n).size = 1 := by unfold lastB; rw [strOfNums_size]; rfl
/-- The digits of a number as a text, with fuel. -/
def digB : Nat → Nat → ByteArray
  | 0, _ => ByteArray.empty
  | f + 1, n => if n = 0 then ByteArray.empty else digB f (n / 10) ++ lastB n
theorem digB_fuel : ∀ (f g n : Nat), n ≤ f → n ≤ g → digB f n = digB g n
  | 0, 0, n, _, _ => rfl
  | 0, g + 1, n, h, _ => by
      have : n = 0 := by omega
      subst this
      simp [digB]
  | f + 1, 0, n, _, h => by
      have : n = 0 := by omega
      subst this
      simp [digB]
  | f + 1, g + 1, n, h, h' => by
      unfold digB
      by_cases h0 : n = 0
      · simp [h0]
      · rw [if_neg h0, if_neg h0, digB_fuel f g (n / 10) (by omega) (by omega)]
/-- The text that marks number n. -/
def mtx (n : Nat) : ByteArray := ⟨#[109]⟩ ++ digB n n
theorem digB_step (n : Nat) (h : n ≠ 0) : digB n n = digB (n / 10) (n / 10) ++ lastB n := by
  obtain ⟨m, rfl⟩ : ∃ m, n = m + 1 := ⟨n - 1, by omega⟩
  rw [digB, if_neg h, digB_fuel m ((m + 1) / 10) ((m + 1) / 10) (by omega) (Nat.le_refl _)]

/-- A text of bounded size and a byte are no great text. -/
theorem addByte (a : ByteArray) (h : a.size ≤ 1099511627776) (m : Int) : (9223372036854775807 < (strOfNums [m]).size + a.size) = False := by
  rw [strOfNums_size]
  simp
  omega
theorem addOne (a : ByteArray) (h : a.size ≤ 1099511627776) : (9223372036854775807 < ({ data := #[109] } : ByteArray).size + a.size) = False := by
  have : ({ data := #[109] } : ByteArray).size = 1 := rfl
  rw [this]
  simp
  omega

set_option maxRecDepth 100000 in
theorem markText (n : Nat) (h0 : 1 ≤ n) (h1 : n ≤ 1099511627776) (w : World) :
    Calls Try.prog 44 #[.int .i64 n] w fun e w' => e = .returned (.string (mtx n)) ∧ Below w.heap.size w w' := by
  have hp : ¬ (n : Int) ≤ 0 := by omega
  go_enter Try.func44, Try.ntmps44
  go_wp2
  go_loopw [0, 3] (fun q s wr => ∃ (m : Nat) (o : ByteArray), m ≤ n ∧ q = .int .i64 m ∧ s = .string o ∧ Hid (digB m m ++ o = digB n n) ∧ o.size + m ≤ n ∧ Below w.heap.size w wr) (fun q _ _ => (intOf q).toNat)
  case atStart => exact ⟨n, ByteArray.empty, Nat.le_refl _, rfl, rfl, by simp [Hid], by simp, Below.refl _ _⟩
  case round =>
    obtain ⟨m, o, hm, rfl, rfl, hd, hsz, hnx⟩ := hrel
    have ha := addByte o (by omega)
    have ha1 := addOne o (by omega)
    by_cases hz : m = 0
    · subst hz
      go_wp2
      go_ret
      have hd := hd.out
      have h0 : digB 0 0 ++ o = o := by simp [digB]
      rw [h0] at hd
      exact ⟨by rw [mtx, ← hd]; rfl, hnx⟩
    · have hpos : (0 : Int) < (m : Int) := by omega
      have hposn : 0 < m := by omega
      go_wp2
      go_roundw
      case rel =>
        refine ⟨m / 10, strOfNums [48 + (m : Int) % 10] ++ o, by omega, by rw [show ((m / 10 : Nat) : Int) = (m : Int) / 10 by omega], rfl, ?_, ?_, hnx.alloc hnx.size _⟩
        · have hd := hd.out
          rw [digB_step m hz, ByteArray.append_assoc] at hd
          exact hd
        · rw [ByteArray.size_append, strOfNums_size]
          simp
          omega
      case measure => simp [intOf]; omega

end Go.Proofs.Ytdbnflgckcjlcaa.LgM

/-
  markOpS of the exact laws: it writes marks into a row of operations of the call's own. For rows of at most 2^20 operations and marks up to 2^39.
-/
namespace Go.Proofs.Ytdbnflgckcjlcaa.LgN
open Go.RowKit Go.Proofs.Ytdbnflgckcjlcaa.Base Go.Proofs.Ytdbnflgckcjlcaa.St Go.Proofs.Ytdbnflgckcjlcaa.StB Go.Proofs.Ytdbnflgckcjlcaa.OpA Go.Proofs.Ytdbnflgckcjlcaa.OpB Go.Proofs.Ytdbnflgckcjlcaa.LgA Go.Proofs.Ytdbnflgckcjlcaa.LgB Go.Proofs.Ytdbnflgckcjlcaa.LgC Go.Proofs.Ytdbnflgckcjlcaa.LgM
set_option linter.unusedVariables false

def upd (g : Nat → Value) (i : Nat) (v : Value) : Nat → Value := fun j => if j = i then v else g j
/-- Block b is a row of N cells g 0, g 1, ..; all else that was in w0 is as it was. -/
def MarkSt (w0 w : World) (b N : Nat) (g : Nat → Value) : Prop := w.rowIs b 63 N g ∧ w0.grownBy w (some b)
theorem grownBy_trans {a b c : World} {r : Option Nat} (h : a.grownBy b r) (k : b.grownBy c r) : a.grownBy c r :=
  ⟨k.os.trans h.os, k.tape.trans h.tape, k.output.trans h.output, Nat.le_trans h.size k.size, fun i hi hne => (k.block i (Nat.lt_of_lt_of_le hi h.size) hne).trans (h.block i hi hne)⟩
theorem below_grownBy {w w' : World} {r : Option Nat} (h : Below w.heap.size w w') : w.grownBy w' r := ⟨h.os, h.tape, h.output, h.size, fun k hk _ => h.block k hk⟩
theorem MarkSt.below {w0 w w' : World} {b N : Nat} {g : Nat → Value} (h : MarkSt w0 w b N g) (hb : Below w.heap.size w w') : MarkSt w0 w' b N g :=
  ⟨h.1.of_block (hb.block b h.1.lt), grownBy_trans h.2 (below_grownBy hb)⟩
theorem grownBy_setCell (w : World) (b i : Nat) (v : Value) : w.grownBy (w.setCell ⟨b, i, none⟩ v) (some b) :=
  ⟨rfl, rfl, rfl, by simp [World.setCell], fun k _ hne => Below.heap_setCell _ _ _ _ (fun e => hne (by rw [e]))⟩
theorem MarkSt.set {w0 w : World} {b N : Nat} {g : Nat → Value} (h : MarkSt w0 w b N g) (i : Nat) (v : Value) : MarkSt w0 (w.setCell ⟨b, i, none⟩ v) b N (upd g i v) :=
  ⟨h.1.set i v, grownBy_trans h.2 (grownBy_setCell w b i v)⟩

theorem size1_int : (Try.prog.info? 3).map (·.size) = some 1 := by kernel_rfl
theorem size1_bool : (Try.prog.info? 4).map (·.size) = some 1 := by kernel_rfl
theorem size1_string : (Try.prog.info? 9).map (·.size) = some 1 := by kernel_rfl
theorem run_storeVar_cell {P : Program} (w : World) (b o : Nat) (ty : TypeId) (v : Value) (h1 : v.oneCell' = true) (hc : (w.cell? ⟨b, o, none⟩).isSome = true) (hf : w.frozen? ⟨b, o, none⟩ = false) (hi : (P.info? ty).map (·.size) = some 1) :
    (storeVar ty ⟨b, o, none⟩ v).run P w = .ok () (w.setCell ⟨b, o, none⟩ v) := by
  have := run_storeCells_cells (P := P) b o [v] 0 w (fun j hj => by have : j = 0 := by simpa using hj
                                                                    subst this; exact hc) (fun j hj => by have : j = 0 := by simpa using hj
                                                                                                          subst this; exact hf) (fun x hx => by simp at hx; subst hx; exact h1)
  have hcl : v.cells = #[v] := by cases v <;> first | rfl | cases h1
  cases hq : P.info? ty with
  | none => simp [hq] at hi
  | some i =>
    have hs : i.size = 1 := by simpa [hq] using hi
    simp only [Nat.add_zero] at this
    simp [storeVar, sizeOf, typeInfo, hq, hcl, hs, this, World.setCells]
/-- A store of one cell into the row. -/
theorem store1 {ops : Array Oper} {rest : List Oper} {op : Oper} {a : Act} {w0 w : World} {Q : Exit → Act → World → Prop} (hgd : op.guard = none) (T : TypeId) (x y : Operand) (ho : op.op = .store T x y)
    {b i N : Nat} {v : Value} {g : Nat → Value} (hx : a.eval x = .pointer (some ⟨b, i, none⟩)) (hy : a.eval y = v) (h1 : v.oneCell' = true) (hsz : (Try.prog.info? T).map (·.size) = some 1) (hi : i < N) (h : MarkSt w0 w b N g)
    (k : ∀ w', MarkSt w0 w' b N (upd g i v) → wpList Try.prog ops Q rest (a.put op.dst undef) w') : wpList Try.prog ops Q (op :: rest) a w :=
  wpList_plain hgd fun _ hK => by
    unfold Oper.wp execOp
    simp only [ho, hx, hy, Instr.storeAt, Instr.sureAddr, Sem.run_bind, Sem.run_pure, Result.andThen_ok, run_storeVar_cell (P := Try.prog) w b i T v h1 (by rw [h.1.cell hi]; rfl) (h.1.frozen i) hsz]
    exact hK _ _ (k _ (h.set i v))

/-- The operation that bears the marks from q on. -/
def mk (q : Nat) : OpV := ⟨q, q + 1, q + 2, q + 3, q + 4, q + 5, q + 6, q + 7, q + 8, q + 9, (((q : Int) + 10) % 3 == 0), mtx (q + 11)⟩
/-- Behind the twelve stores of a round the operation bears its marks. -/
theorem mark_fin {w0 w : World} {b c n j q : Nat} {f : Nat → OpV} {g : Nat → Value} {v0 v1 v2 v3 v4 v5 v6 v7 v8 v9 v10 v11 : Value} (hj : j < n) (hnc : n ≤ c) (hg : ∀ k, k < n → ∀ i, i < 12 → g (k * 12 + i) = (opL (f k)).getD i undef)
    (P : MarkSt w0 w b (c * 12) (upd (upd (upd (upd (upd (upd (upd (upd (upd (upd (upd (upd g (j * 12) v0) (j * 12 + 1) v1) (j * 12 + 2) v2) (j * 12 + 3) v3) (j * 12 + 4) v4) (j * 12 + 5) v5) (j * 12 + 6) v6) (j * 12 + 7) v7) (j * 12 + 8) v8) (j * 12 + 9) v9) (j * 12 + 10) v10) (j * 12 + 11) v11))
    (e0 : v0 = .int .i64 (q : Int)) (e1 : v1 = .int .i64 ((q : Int) + 1)) (e2 : v2 = .int .i64 ((q : Int) + 2)) (e3 : v3 = .int .i64 ((q : Int) + 3)) (e4 : v4 = .int .i64 ((q : Int) + 4)) (e5 : v5 = .int .i64 ((q : Int) + 5)) (e6 : v6 = .int .i64 ((q : Int) + 6)) (e7 : v7 = .int .i64 ((q : Int) + 7)) (e8 : v8 = .int .i64 ((q : Int) + 8)) (e9 : v9 = .int .i64 ((q : Int) + 9)) (e10 : v10 = .bool (((q : Int) + 10) % 3 == 0)) (e11 : v11 = .string (mtx (q + 11))) :
    OwnO w b c n (fun m => if m = j then mk q else f m) ∧ w0.grownBy w (some b) := by
  refine ⟨⟨_, P.1, hnc, fun k hk i hi => ?_⟩, P.2⟩
  show _ = (opL (if k = j then mk q else f k)).getD i undef
  by_cases e : k = j
  · subst e
    rw [if_pos rfl]
    obtain rfl | rfl | rfl | rfl | rfl | rfl | rfl | rfl | rfl | rfl | rfl | rfl : i = 0 ∨ i = 1 ∨ i = 2 ∨ i = 3 ∨ i = 4 ∨ i = 5 ∨ i = 6 ∨ i = 7 ∨ i = 8 ∨ i = 9 ∨ i = 10 ∨ i = 11 := by omega
    all_goals simp [upd, opL, mk, e0, e1, e2, e3, e4, e5, e6, e7, e8, e9, e10, e11]
  · rw [if_neg e, ← hg k hk i hi]
    have h : ∀ t, t < 12 → ¬ (k * 12 + i = j * 12 + t) := fun t ht => by omega
    have h0 : ¬ (k * 12 + i = j * 12) := by omega
    simp only [upd, h0, h 1 (by omega), h 2 (by omega), h 3 (by omega), h 4 (by omega), h 5 (by omega), h 6 (by omega), h 7 (by omega), h 8 (by omega), h 9 (by omega), h 10 (by omega), h 11 (by omega), if_false]

theorem markText' (x : Int) (n : Nat) (hx : x = n) (h0 : 1 ≤ n) (h1 : n ≤ 1099511627776) (w : World) :
    Calls Try.prog 44 #[.int .i64 x] w fun e w' => e = .returned (.string (mtx n)) ∧ Below w.heap.size w w' := hx ▸ markText n h0 h1 w

set_option maxRecDepth 1000000 in
set_option maxHeartbeats 1000000 in
theorem markOpS (b c n : Nat) (f : Nat → OpV) (q0 : Nat) (w : World) (hown : OwnO w b c n f) (hn : n ≤ 1048576) (hq0 : 1 ≤ q0) (hq : q0 ≤ 549755813888) :
    Calls Try.prog 16 #[.slice (some ⟨b, 0, none⟩) n c, .int .i64 q0] w fun e w' => e = .returned (.int .i64 ((q0 + 12 * n : Nat) : Int)) ∧ OwnO w' b c n (fun i => mk (q0 + 12 * i)) ∧ w.grownBy w' (some b) := by
  go_enter Try.func16, Try.ntmps16
  go_wp2
  go_loopw [1, 5] (fun s i wr => ∃ (j q : Nat), j ≤ n ∧ i = .int .i64 j ∧ Hid (q = q0 + 12 * j) ∧ s = .int .i64 q ∧ OwnO wr b c n (fun m => if m < j then mk (q0 + 12 * m) else f m) ∧ w.grownBy wr (some b)) (fun _ i _ => n - (intOf i).toNat)
  case atStart => exact ⟨0, q0, Nat.zero_le _, rfl, rfl, rfl, hown.congr fun i hi => by simp, World.grownBy.refl _ _⟩
  case round =>
    obtain ⟨j, q, hj, rfl, hqe, rfl, ho, hg⟩ := hrel
    by_cases hlt : j < n
    · have hqb : 1 ≤ q ∧ q ≤ 549768396800 := by have := hqe.out; omega
      obtain ⟨hq1, hq2⟩ := hqb
      obtain ⟨g, hrow, hnc, hgv⟩ := ho
      have hjc : j * 12 + 11 < c * 12 := by omega
      have P0 : MarkSt w wr b (c * 12) g := ⟨hrow, hg⟩
      have HG := Lib.hid hgv
      clear hgv hrow hg hown hq
      go_wp2_with (first
        | (with_reducible refine store1 (b := b) (i := j * 12) rfl 3 _ _ rfl rfl rfl rfl size1_int (by omega) P0 ?_; intro w1 P1)
        | (with_reducible refine store1 (b := b) (i := j * 12 + 1) rfl 3 _ _ rfl rfl rfl rfl size1_int (by omega) P1 ?_; intro w2 P2)
        | (with_reducible refine store1 (b := b) (i := j * 12 + 2) rfl 3 _ _ rfl rfl rfl rfl size1_int (by omega) P2 ?_; intro w3 P3)
        | (with_reducible refine store1 (b := b) (i := j * 12 + 3) rfl 3 _ _ rfl rfl rfl rfl size1_int (by omega) P3 ?_; intro w4 P4)
        | (with_reducible refine store1 (b := b) (i := j * 12 + 4) rfl 3 _ _ rfl rfl rfl rfl size1_int (by omega) P4 ?_; intro w5 P5)
        | (with_reducible refine store1 (b := b) (i := j * 12 + 5) rfl 3 _ _ rfl rfl rfl rfl size1_int (by omega) P5 ?_; intro w6 P6)
        | (with_reducible refine store1 (b := b) (i := j * 12 + 6) rfl 3 _ _ rfl rfl rfl rfl size1_int (by omega) P6 ?_; intro w7 P7)
        | (with_reducible refine store1 (b := b) (i := j * 12 + 7) rfl 3 _ _ rfl rfl rfl rfl size1_int (by omega) P7 ?_; intro w8 P8)
        | (with_reducible refine store1 (b := b) (i := j * 12 + 8) rfl 3 _ _ rfl rfl rfl rfl size1_int (by omega) P8 ?_; intro w9 P9)
        | (with_reducible refine store1 (b := b) (i := j * 12 + 9) rfl 3 _ _ rfl rfl rfl rfl size1_int (by omega) P9 ?_; intro w10 P10)
        | (with_reducible refine store1 (b := b) (i := j * 12 + 10) rfl 4 _ _ rfl rfl rfl rfl size1_bool (by omega) P10 ?_; intro w11 PX)
        | (with_reducible refine store1 (b := b) (i := j * 12 + 11) rfl 9 _ _ rfl rfl rfl rfl size1_string (by omega) P11 ?_; intro w12 P12)
        | (go_at_call 44; refine (markText' _ (q + 11) (by omega) (by omega) (by omega) _).mono ?_; rintro e wm ⟨rfl, hbm⟩; have P11 := PX.below hbm))
      go_roundw
      case rel =>
        obtain ⟨h1, h2⟩ := mark_fin hlt hnc HG.out P12 (by first | rfl | go_num) (by first | rfl | go_num) (by first | rfl | go_num) (by first | rfl | go_num) (by first | rfl | go_num) (by first | rfl | go_num) (by first | rfl | go_num) (by first | rfl | go_num) (by first | rfl | go_num) (by first | rfl | go_num) (by first | rfl | (congr 1)) rfl
        refine ⟨j + 1, q + 12, by omega, by go_num, by have h := hqe.out; show q + 12 = q0 + 12 * (j + 1); omega, by first | rfl | go_num, h1.congr fun m hm => ?_, h2⟩
        by_cases e : m = j
        · rw [if_pos e, if_pos (by omega), e, hqe.out]
        · rw [if_neg e]
          by_cases e2 : m < j
          · rw [if_pos e2, if_pos (by omega)]
          · rw [if_neg e2, if_neg (by omega)]
      case measure => simp [intOf]; omega
    · obtain rfl : j = n := by omega
      go_wp2
      go_ret
      exact ⟨ret_int (by have h := hqe.out; omega), ho.congr fun i hi => by simp [hi], hg⟩


end Go.Proofs.Ytdbnflgckcjlcaa.LgN

/-
  heldOpS of the exact laws: it finds the marks in a row of operations that bears them. For rows of at most 2^20 operations and marks up to 2^39. markOpS and heldOpS at nil, too.
-/
namespace Go.Proofs.Ytdbnflgckcjlcaa.LgO
open Go.RowKit Go.Proofs.Ytdbnflgckcjlcaa.Base Go.Proofs.Ytdbnflgckcjlcaa.St Go.Proofs.Ytdbnflgckcjlcaa.StB Go.Proofs.Ytdbnflgckcjlcaa.OpA Go.Proofs.Ytdbnflgckcjlcaa.OpB Go.Proofs.Ytdbnflgckcjlcaa.LgA Go.Proofs.Ytdbnflgckcjlcaa.LgB Go.Proofs.Ytdbnflgckcjlcaa.LgC Go.Proofs.Ytdbnflgckcjlcaa.LgF Go.Proofs.Ytdbnflgckcjlcaa.LgM Go.Proofs.Ytdbnflgckcjlcaa.LgN
set_option linter.unusedVariables false
attribute [local go_sem ↓] Go.wp_at_zero Go.wp_at_succ
attribute [local irreducible] Go.wpQuiet

set_option maxRecDepth 1000000 in
set_option maxHeartbeats 2000000 in
theorem heldOpS1 (b c n : Nat) (q0 : Nat) (w : World) (hown : OwnO w b c n (fun i => mk (q0 + 12 * i))) (hn : n ≤ 1048576) (hq0 : 1 ≤ q0) (hq : q0 ≤ 549755813888) :
    Calls Try.prog 17 #[.slice (some ⟨b, 0, none⟩) n c, .int .i64 q0] w fun e w' => e = .returned (.int .i64 ((q0 + 12 * n : Nat) : Int)) ∧ Below w.heap.size w w' := by
  have HO := Lib.hid hown
  clear hown
  go_enter Try.func17, Try.ntmps17
  go_wp2
  go_loopw [1, 5] (fun s i wr => ∃ (j q : Nat), j ≤ n ∧ i = .int .i64 j ∧ Hid (q = q0 + 12 * j) ∧ s = .int .i64 q ∧ Below w.heap.size w wr) (fun _ i _ => n - (intOf i).toNat)
  case atStart => exact ⟨0, q0, Nat.zero_le _, rfl, rfl, rfl, Below.refl _ _⟩
  case round =>
    obtain ⟨j, q, hj, rfl, hqe, rfl, hnx⟩ := hrel
    by_cases hlt : j < n
    · have hqb : 1 ≤ q ∧ q ≤ 549768396800 := by have := hqe.out; omega
      obtain ⟨hq1, hq2⟩ := hqb
      have hown := HO.out.below hnx
      have hnc := hown.le
      have hr : wr.rangeAt b (j * 12) (opL (mk q)) := by rw [hqe.out]; exact hown.range hlt
      have hbl : b < wr.heap.size := hown.lt
      have c0 : wr.cell? ⟨b, j * 12, none⟩ = some (.int .i64 (q : Int)) := rangeAt_cell hr 0 (by omega)
      have c1 : wr.cell? ⟨b, j * 12 + 1, none⟩ = some (.int .i64 ((q : Int) + 1)) := rangeAt_cell hr 1 (by omega)
      have c2 : wr.cell? ⟨b, j * 12 + 2, none⟩ = some (.int .i64 ((q : Int) + 2)) := rangeAt_cell hr 2 (by omega)
      have c3 : wr.cell? ⟨b, j * 12 + 3, none⟩ = some (.int .i64 ((q : Int) + 3)) := rangeAt_cell hr 3 (by omega)
      have c4 : wr.cell? ⟨b, j * 12 + 4, none⟩ = some (.int .i64 ((q : Int) + 4)) := rangeAt_cell hr 4 (by omega)
      have d4 : wr.cell? ⟨b, j * 12 + 3 + 1, none⟩ = some (.int .i64 ((q : Int) + 4)) := c4
      have c5 : wr.cell? ⟨b, j * 12 + 5, none⟩ = some (.int .i64 ((q : Int) + 5)) := rangeAt_cell hr 5 (by omega)
      have c6 : wr.cell? ⟨b, j * 12 + 6, none⟩ = some (.int .i64 ((q : Int) + 6)) := rangeAt_cell hr 6 (by omega)
      have d6 : wr.cell? ⟨b, j * 12 + 5 + 1, none⟩ = some (.int .i64 ((q : Int) + 6)) := c6
      have c7 : wr.cell? ⟨b, j * 12 + 7, none⟩ = some (.int .i64 ((q : Int) + 7)) := rangeAt_cell hr 7 (by omega)
      have c8 : wr.cell? ⟨b, j * 12 + 8, none⟩ = some (.int .i64 ((q : Int) + 8)) := rangeAt_cell hr 8 (by omega)
      have d8 : wr.cell? ⟨b, j * 12 + 7 + 1, none⟩ = some (.int .i64 ((q : Int) + 8)) := c8
      have c9 : wr.cell? ⟨b, j * 12 + 9, none⟩ = some (.int .i64 ((q : Int) + 9)) := rangeAt_cell hr 9 (by omega)
      have c10 : wr.cell? ⟨b, j * 12 + 10, none⟩ = some (.bool (((q : Int) + 10) % 3 == 0)) := rangeAt_cell hr 10 (by omega)
      have e10 : ((q : Int) + 10) = (q : Int) + 1 + 1 + 1 + 1 + 1 + 1 + 1 + 1 + 1 + 1 := by omega
      rw [e10] at c10
      clear e10
      have c11 : wr.cell? ⟨b, j * 12 + 11, none⟩ = some (.string (mtx (q + 11))) := rangeAt_cell hr 11 (by omega)
      have C11 := Lib.hid c11
      have hj0 : (0 : Int) ≤ (j : Int) := Int.natCast_nonneg _
      have hj1 : (j : Int) < (n : Int) := by omega
      clear hr hown hq c11
      go_wp2
      have hB0 : Below wr.heap.size wr wr.drew := (Below.refl _ _).drew
      clear c0 c1 c2 c3 c4 c5 c6 c7 c8 c9 c10 d4 d6 d8
      refine region_lit (C := fun W => Below wr.heap.size wr W) (by kernel_rfl) (by kernel_rfl) hB0 ?_
      repeat (
        first
          | (refine wpQuiet_step (fun K hK => ?_)
             go_simp
             first
               | (refine hK _ ?_; clear hK K)
               | (apply Exists.intro
                  refine ⟨fun W hW => ?_, hK _ ?_⟩
                  · have p11 := (hW.cell (p := ⟨b, j * 12 + 11, none⟩) hbl).trans C11.out
                    first
                      | (go_simp; exact rfl)
                      | (go_simp; exact ⟨rfl, rfl⟩)
                      | with_reducible exact (markText' _ (q + 11) (by omega) (by omega) (by omega) _).mono (fun e wn ⟨he, hbn⟩ => ⟨he, hW.trans (hbn.mono hW.size)⟩)
                      | with_reducible exact ⟨rfl, (markText' _ (q + 11) (by omega) (by omega) (by omega) _).mono (fun e wn ⟨he, hbn⟩ => ⟨he, hW.trans (hbn.mono hW.size)⟩)⟩
                  clear hK K)))
      refine wpQuiet_nil ?_
      intro W hW
      go_wp2
      go_roundw
      case rel => exact ⟨j + 1, q + 12, by omega, by go_num, by have h := hqe.out; show q + 12 = q0 + 12 * (j + 1); omega, by first | rfl | go_num, hnx.trans (hW.mono hnx.size)⟩
      case measure => simp [intOf]; omega
    · obtain rfl : j = n := by omega
      go_wp2
      go_ret
      exact ⟨ret_int (by have h := hqe.out; omega), hnx⟩

theorem markOpS_none (c q0 : Nat) (w : World) : Calls Try.prog 16 #[.slice none 0 c, .int .i64 q0] w fun e w' => e = .returned (.int .i64 q0) ∧ w = w' := by
  go_enter Try.func16, Try.ntmps16
  go_wp2
  go_rounds 1
  go_ret
  exact ⟨rfl, rfl⟩
theorem heldOpS_none (c q0 : Nat) (w : World) : Calls Try.prog 17 #[.slice none 0 c, .int .i64 q0] w fun e w' => e = .returned (.int .i64 q0) ∧ w = w' := by
  go_enter Try.func17, Try.ntmps17
  go_wp2
  go_rounds 1
  go_ret
  exact ⟨rfl, rfl⟩

/-- Both, at a slice that is nil or of the call's own. -/
theorem markRow (lo : Nat) (a : Option Addr) (c n : Nat) (f : Nat → OpV) (q0 : Nat) (w : World) (hr : RowO lo w a c n f) (hn : n ≤ 1048576) (hq0 : 1 ≤ q0) (hq : q0 ≤ 549755813888) :
    Calls Try.prog 16 #[.slice a n c, .int .i64 q0] w fun e w' => e = .returned (.int .i64 ((q0 + 12 * n : Nat) : Int)) ∧ RowO lo w' a c n (fun i => mk (q0 + 12 * i)) ∧ w.grownBy w' (blkA a) := by
  rcases hr with ⟨rfl, rfl⟩ | ⟨b, rfl, hlo, hown⟩
  · refine (markOpS_none c q0 w).mono ?_
    rintro e w' ⟨rfl, rfl⟩
    exact ⟨rfl, .inl ⟨rfl, rfl⟩, World.grownBy.refl _ _⟩
  · refine (markOpS b c n f q0 w hown hn hq0 hq).mono ?_
    rintro e w' ⟨rfl, h1, h2⟩
    exact ⟨rfl, .inr ⟨b, rfl, hlo, h1⟩, h2⟩
theorem heldRow (lo : Nat) (a : Option Addr) (c n : Nat) (q0 : Nat) (w : World) (hr : RowO lo w a c n (fun i => mk (q0 + 12 * i))) (hn : n ≤ 1048576) (hq0 : 1 ≤ q0) (hq : q0 ≤ 549755813888) :
    Calls Try.prog 17 #[.slice a n c, .int .i64 q0] w fun e w' => e = .returned (.int .i64 ((q0 + 12 * n : Nat) : Int)) ∧ Below w.heap.size w w' := by
  rcases hr with ⟨rfl, rfl⟩ | ⟨b, rfl, hlo, hown⟩
  · refine (heldOpS_none c q0 w).mono ?_
    rintro e w' ⟨rfl, rfl⟩
    exact ⟨rfl, Below.refl _ _⟩
  · exact heldOpS1 b c n q0 w hown hn hq0 hq

end Go.Proofs.Ytdbnflgckcjlcaa.LgO

/-
  LogPrefix and LogMissing of the model: contracts. For slices that read as lists of at most 2^20 entries.
-/
namespace Go.Proofs.Ytdbnflgckcjlcaa.LgQ
open Go.RowKit Go.Proofs.Ytdbnflgckcjlcaa.Base Go.Proofs.Ytdbnflgckcjlcaa.St Go.Proofs.Ytdbnflgckcjlcaa.StB Go.Proofs.Ytdbnflgckcjlcaa.Vec Go.Proofs.Ytdbnflgckcjlcaa.Row Go.Proofs.Ytdbnflgckcjlcaa.VecA Go.Proofs.Ytdbnflgckcjlcaa.OpA Go.Proofs.Ytdbnflgckcjlcaa.OpB Go.Proofs.Ytdbnflgckcjlcaa.LgA Go.Proofs.Ytdbnflgckcjlcaa.LgB Go.Proofs.Ytdbnflgckcjlcaa.LgC Go.Proofs.Ytdbnflgckcjlcaa.LgF Go.Proofs.Ytdbnflgckcjlcaa.LgI Go.Proofs.Ytdbnflgckcjlcaa.LgP
set_option linter.unusedVariables false

theorem givesO_nil (w : World) : GivesO w [] (.returned (.slice none 0 0)) w := ⟨none, 0, rfl, .inl ⟨rfl, rfl⟩, Below.refl _ _⟩
theorem GivesO.from {w w1 w' : World} {os : List OpV} {e : Ending} (hb : Below w.heap.size w w1) (h : GivesO w1 os e w') : GivesO w os e w' := by
  obtain ⟨a, c, rfl, hr, h2⟩ := h
  refine ⟨a, c, rfl, ?_, hb.trans (h2.mono hb.size)⟩
  rcases hr with hr | ⟨b, rfl, hlo, ho⟩
  · exact .inl hr
  · exact .inr ⟨b, rfl, Nat.le_trans hb.size hlo, ho⟩
/-- The answer of LogPrefix; of LogMissing. -/
def pfx (os : List OpV) (zs : List Int) : List OpV := if vlog os && vv zs then keepTo (con zs) os os.length else []
def mis (os : List OpV) (zs : List Int) : List OpV := if vlog os && vv zs then keepTo (fun o => !con zs o) os os.length else []

end Go.Proofs.Ytdbnflgckcjlcaa.LgQ

/-
  filter of the program's ordered set of operations, at a predicate that is a closure over one variable; the two closures of LogPrefix and LogMissing. For slices that read as a list of at most 2^20 operations, all valid.
-/
namespace Go.Proofs.Ytdbnflgckcjlcaa.LgR
open Go.RowKit Go.Proofs.Ytdbnflgckcjlcaa.Base Go.Proofs.Ytdbnflgckcjlcaa.St Go.Proofs.Ytdbnflgckcjlcaa.StB Go.Proofs.Ytdbnflgckcjlcaa.Vec Go.Proofs.Ytdbnflgckcjlcaa.Row Go.Proofs.Ytdbnflgckcjlcaa.VecA Go.Proofs.Ytdbnflgckcjlcaa.OpA Go.Proofs.Ytdbnflgckcjlcaa.OpB Go.Proofs.Ytdbnflgckcjlcaa.LgA Go.Proofs.Ytdbnflgckcjlcaa.LgB Go.Proofs.Ytdbnflgckcjlcaa.LgC Go.Proofs.Ytdbnflgckcjlcaa.LgF Go.Proofs.Ytdbnflgckcjlcaa.LgG Go.Proofs.Ytdbnflgckcjlcaa.LgI Go.Proofs.Ytdbnflgckcjlcaa.LgP Go.Proofs.Ytdbnflgckcjlcaa.LgQ
set_option linter.unusedVariables false

theorem OwnsO.lower {w : World} {lo lo' : Nat} {v : Value} {os : List OpV} (h : OwnsO w lo v os) (hl : lo' ≤ lo) : OwnsO w lo' v os := by
  refine ⟨h.1, ?_⟩
  rcases h.2 with h | ⟨g, cap, cur, rfl, hb, h⟩
  · exact .inl h
  · exact .inr ⟨g, cap, cur, rfl, Nat.le_trans hl hb, h⟩
theorem OwnsO.set {w : World} {lo : Nat} {v : Value} {os : List OpV} (h : OwnsO w lo v os) {a : Addr} (ha : a.block < lo) (u : Value) : OwnsO (w.setCell a u) lo v os := ownsRow_setCell_below h ha u
theorem boxR (w0 : World) (o : OpV) : (w0.alloc (.cells #[.int .i64 o.i, .int .i64 o.j, .int .i64 o.k, .int .i64 o.ts, .int .i64 o.ta, .int .i64 o.fs, .int .i64 o.fa, .int .i64 o.ns, .int .i64 o.na, .int .i64 o.v, .bool o.en, .string o.tx] 63)).rangeAt w0.heap.size 0 (opL o) :=
  fun j u hu => by have := news w0 o j u hu; rwa [Addr.add_mid] at this

/-- The set's box at block n and the answer's place behind it. -/
def Fx (n : Nat) (W : World) : Prop := n + 1 < W.heap.size ∧ W.cell? ⟨n, 1, none⟩ = some (.func (.func 74) #[] #[]) ∧ W.cell? ⟨n + 1, 0, none⟩ = some (.slice none 0 0) ∧ W.cell? ⟨n + 1, 1, none⟩ = some .nilFunc ∧
  W.frozen? ⟨n + 1, 0, none⟩ = false ∧ W.frozen? ⟨n + 1, 1, none⟩ = false
theorem Fx.next {n : Nat} {W W' : World} (h : Fx n W) (hb : Below (n + 2) W W') : Fx n W' := by
  obtain ⟨h0, h1, h2, h3, h4, h5⟩ := h
  have := hb.size
  exact ⟨by omega, (hb.cell (by show n < _; omega)).trans h1, (hb.cell (by show n + 1 < _; omega)).trans h2, (hb.cell (by show n + 1 < _; omega)).trans h3, (hb.frozen (by show n + 1 < _; omega)).trans h4, (hb.frozen (by show n + 1 < _; omega)).trans h5⟩

set_option maxRecDepth 100000 in
set_option maxHeartbeats 1000000 in
theorem filter (fn : FuncId) (p : Addr) (P : OpV → Bool) (a : Option Addr) (c : Nat) (os : List OpV) (w : World) (hr : RdO w a os) (hl : os.length ≤ 1048576) (hok : allTo os os.length = true)
    (HF : ∀ (args : Array Value) (W : World), (callFunc fn args).run Try.prog W = .ok (.enter fn args) W)
    (HK : ∀ o W, Below w.heap.size w W → vst o.i o.j = true → Calls Try.prog fn #[.agg #[.int .i64 o.i, .int .i64 o.j, .int .i64 o.k, .int .i64 o.ts, .int .i64 o.ta, .int .i64 o.fs, .int .i64 o.fa, .int .i64 o.ns, .int .i64 o.na, .int .i64 o.v, .bool o.en, .string o.tx], .pointer (some p)] W fun e w' => e = .returned (.bool (P o)) ∧ Below W.heap.size W w') :
    Calls Try.prog 42 #[.agg #[.slice a os.length c, .func (.func 74) #[] #[]], .func (.func fn) #[] #[.pointer (some p)]] w fun e w' =>
      ∃ v, e = .returned (.agg #[v, .func (.func 74) #[] #[]]) ∧ OwnsO w' w.heap.size v (keepTo P os os.length) ∧ Below w.heap.size w w' := by
  have HOK := Lib.hid (fun k (hk : k < os.length) => vst_of hok hk)
  have HKK := Lib.hid HK
  clear hok HK
  rcases hr with rfl | ⟨b, off, rfl, hc⟩
  · go_enter Try.func42, Try.ntmps42
    go_wp2
    go_rounds 1
    refine bodyPost_ret (v := .agg #[.slice none 0 0, .func (.func 74) #[] #[]]) (by simp [results, Try.results42, go_sem]) rfl ⟨_, rfl, ownsO_nil _ _, ?_⟩
    go_grown
  · have HC := Lib.hid hc
    clear hc
    go_enter Try.func42, Try.ntmps42
    go_wp2
    go_loopw [5, 11] (fun s i wr => ∃ k : Nat, k ≤ os.length ∧ i = .int .i64 k ∧ OwnsO wr (w.heap.size + 2) s (keepTo P os k) ∧ Below w.heap.size w wr ∧ Fx w.heap.size wr) (fun _ i _ => os.length - (intOf i).toNat)
    case atStart =>
      refine ⟨0, Nat.zero_le _, rfl, ownsO_nil _ _, ((Below.refl _ _).alloc (Nat.le_refl _) _).alloc (by simp) _, by simp, ?_⟩
      simp [go_sem]
    case round =>
      obtain ⟨k, hk, rfl, hown, hnx, hfx⟩ := hrel
      have hzz := hfx.1
      by_cases hlt : k < os.length
      · obtain ⟨o, ho⟩ : ∃ o, o = os.getD k zop := ⟨_, rfl⟩
        have hr := (by rw [ho]; exact rangeAt_below (HC.out k hlt) hnx (rangeAt_lt (HC.out k hlt)) : wr.rangeAt b (off + k * 12) (opL o))
        have HR := Lib.hid hr
        have hst : vst o.i o.j = true := by rw [ho]; exact HOK.out k hlt
        have HCal := Lib.hid (fun (W : World) (h : Below w.heap.size w W) => HKK.out o W h hst)
        have hkl := keepTo_len P os k
        have HO := Lib.hid ho
        obtain ⟨q, hq⟩ : ∃ q, P o = q := ⟨_, rfl⟩
        rw [hq] at HCal
        have HQ := Lib.hid hq
        have HBX := Lib.hid (boxR wr o)
        clear ho hr hq hst
        have hB0 : Below wr.heap.size wr (wr.alloc (.cells #[.int .i64 o.i, .int .i64 o.j, .int .i64 o.k, .int .i64 o.ts, .int .i64 o.ta, .int .i64 o.fs, .int .i64 o.fa, .int .i64 o.ns, .int .i64 o.na, .int .i64 o.v, .bool o.en, .string o.tx] 63)) := (Below.refl _ _).alloc (Nat.le_refl _) _
        cases q
        · go_wp2_with (refine loadI rfl _ rfl rfl HR.out ?_)
          refine (HCal.out _ (hnx.trans (hB0.mono hnx.size))).mono ?_
          rintro e w1 ⟨rfl, hb1⟩
          have hB1 := hB0.trans (hb1.mono (by simp))
          go_wp2
          go_roundw
          case rel => exact ⟨k + 1, by omega, by go_num, by rw [keepTo, if_neg (by rw [← HO.out, HQ.out]; exact Bool.false_ne_true)]; exact hown.below hB1, hnx.trans (hB1.mono hnx.size), hfx.next (hB1.mono (by omega))⟩
          case measure => simp [intOf]; omega
        · go_wp2_with (refine loadI rfl _ rfl rfl HR.out ?_)
          refine (HCal.out _ (hnx.trans (hB0.mono hnx.size))).mono ?_
          rintro e w1 ⟨rfl, hb1⟩
          have hB1 := hB0.trans (hb1.mono (by simp))
          have HR1 := Lib.hid (rangeAt_below HBX.out hb1 (by simp))
          have hown1 := hown.below hB1
          have hnx1 := hnx.trans (hB1.mono hnx.size)
          have hsz1 := hnx1.size
          have hsz2 : w.heap.size + 2 ≤ w1.heap.size := by have := hB1.size; omega
          clear hown
          go_wp2_with (first
            | (refine loadI rfl _ rfl rfl HR1.out ?_)
            | (with_reducible refine appendO (o := o) rfl _ _ rfl rfl rfl hown1 (by omega) hsz2 ?_; intro v2 w2 hown2 hb2 hsz3))
          go_roundw
          case rel => exact ⟨k + 1, by omega, by go_num, by rw [keepTo, if_pos (by rw [← HO.out, HQ.out]), ← HO.out]; exact hown2, hnx1.trans (hb2.mono (by omega)), (hfx.next (hB1.mono (by omega))).next hb2⟩
          case measure => simp [intOf]; omega
      · obtain rfl : k = os.length := by omega
        obtain ⟨av, cv, rfl, _⟩ := ownedO hown
        obtain ⟨_, f1, f2, f3, f4, f5⟩ := hfx
        go_wp2
        refine bodyPost_ret (v := .agg #[.slice av (keepTo P os os.length).length cv, .func (.func 74) #[] #[]]) (by simp [results, Try.results42, go_sem, f2, f3]) rfl ⟨_, rfl, ?_, ?_⟩
        · exact OwnsO.lower (OwnsO.set (OwnsO.set hown (by show w.heap.size + 1 < _; omega) _) (by show w.heap.size + 1 < _; omega) _) (by omega)
        · exact (hnx.setCell (by simp) _).setCell (by simp) _

/-- A function with a body is entered. -/
theorem enters {f : FuncId} {fn : Func} (hf : Try.prog.funcs[f]? = some fn) (h1 : (fn.name == "runtime.NumGoroutine") = false) (h2 : fn.body.isNone = false) (args : Array Value) (W : World) : (callFunc f args).run Try.prog W = .ok (.enter f args) W := by
  have h1' : ¬ fn.name = "runtime.NumGoroutine" := by simpa using h1
  have h2' : ¬ fn.body = none := fun e => by rw [e] at h2; cases h2
  simp [callFunc, go_sem, hf, h1', h2']

end Go.Proofs.Ytdbnflgckcjlcaa.LgR

/-
  Parts of slices of operations, and append of a slice of operations; slices.Clone. Lists: the merge of two logs. For slices of at most 2^20 operations.
-/
namespace Go.Proofs.Ytdbnflgckcjlcaa.LgZ
open Go.RowKit Go.Proofs.Ytdbnflgckcjlcaa.Base Go.Proofs.Ytdbnflgckcjlcaa.St Go.Proofs.Ytdbnflgckcjlcaa.StB Go.Proofs.Ytdbnflgckcjlcaa.OpA Go.Proofs.Ytdbnflgckcjlcaa.OpB Go.Proofs.Ytdbnflgckcjlcaa.LgA Go.Proofs.Ytdbnflgckcjlcaa.LgB Go.Proofs.Ytdbnflgckcjlcaa.LgC Go.Proofs.Ytdbnflgckcjlcaa.LgF Go.Proofs.Ytdbnflgckcjlcaa.LgP Go.Proofs.Ytdbnflgckcjlcaa.LgQ
set_option linter.unusedVariables false

theorem getD_drop (os : List OpV) (k i : Nat) : (os.drop k).getD i zop = os.getD (k + i) zop := by simp [List.getD_eq_getElem?_getD, List.getElem?_drop]
theorem getD_take (os : List OpV) (k i : Nat) (h : i < k) : (os.take k).getD i zop = os.getD i zop := by simp [List.getD_eq_getElem?_getD, h]

theorem sizeOf12 (w : World) : (sizeOf 63).run Try.prog w = .ok 12 w := by
  obtain ⟨i0, hi, _, hz1, _⟩ := info_parts info104
  simp [sizeOf, typeInfo, hi, hz1]
theorem elem36 : Try.prog.underlying 29 = some (.slice (Try.prog.elem 29)) := by kernel_rfl
theorem run_sliceLo (A : Option Addr) (n c k : Nat) (hk : k ≤ n) (w : World) :
    (Instr.sliceAt 29 (.slice A n c) (some (.int .i64 (k : Int))) none none).run Try.prog w = .ok (.slice (if c = k then A else A.map (·.add (k * 12))) (n - k) (c - k)) w := by
  rw [run_sliceAt_slice w _ _ _ _ _ elem36]
  simp [Instr.slice, run_underlying Try.underlying29, Instr.sliceBounds, go_sem, hk]
theorem run_sliceHi (A : Option Addr) (n c k : Nat) (hk : k ≤ c) (w : World) :
    (Instr.sliceAt 29 (.slice A n c) none (some (.int .i64 (k : Int))) none).run Try.prog w = .ok (.slice (if c = 0 then A else A.map (·.add (0 * 12))) k c) w := by
  rw [run_sliceAt_slice w _ _ _ _ _ elem36]
  simp [Instr.slice, run_underlying Try.underlying29, Instr.sliceBounds, go_sem, hk]

theorem rdDrop {w : World} {A : Option Addr} {os : List OpV} {c k : Nat} (h : RdO w A os) (hk : k ≤ os.length) (hc : os.length ≤ c) : RdO w (if c = k then A else A.map (·.add (k * 12))) (os.drop k) := by
  by_cases e : k = os.length
  · left; rw [e]; simp
  · rw [if_neg (by omega)]
    rcases h with rfl | ⟨b, off, rfl, hr⟩
    · left; simp
    · refine .inr ⟨b, off + k * 12, by rw [Option.map_some, Addr.add_mid], fun i hi => ?_⟩
      rw [getD_drop, show off + k * 12 + i * 12 = off + (k + i) * 12 by omega]
      exact hr (k + i) (by simp at hi; omega)
theorem rdTake {w : World} {A : Option Addr} {os : List OpV} {c k : Nat} (h : RdO w A os) (hk : k ≤ os.length) : RdO w (if c = 0 then A else A.map (·.add (0 * 12))) (os.take k) := by
  rcases h with rfl | ⟨b, off, rfl, hr⟩
  · left; simp
  · refine .inr ⟨b, off, by simp [Addr.add], fun i hi => ?_⟩
    simp at hi
    rw [getD_take _ _ _ (by omega)]
    exact hr i (by omega)

/-- log[k:]. -/
theorem sliceLo {ops : Array Oper} {rest : List Oper} {op : Oper} {a : Act} {w : World} {Q : Exit → Act → World → Prop} (hgd : op.guard = none) (x y : Operand) (ho : op.op = .slice 29 x (some y) none none)
    {A : Option Addr} {c k : Nat} {os : List OpV} (hx : a.eval x = .slice A os.length c) (hy : a.eval y = .int .i64 (k : Int)) (hk : k ≤ os.length) (hc : os.length ≤ c) (hr : RdO w A os)
    (K : ∀ A' c', RdO w A' (os.drop k) → wpList Try.prog ops Q rest (a.put op.dst (.slice A' (os.drop k).length c')) w) : wpList Try.prog ops Q (op :: rest) a w :=
  wpList_plain hgd fun _ hK => by
    unfold Oper.wp execOp
    simp only [ho, hx, hy, Option.map_some, Option.map_none, Sem.run_bind, Sem.run_pure, Result.andThen_ok, run_sliceLo A os.length c k hk w]
    have := K _ (c - k) (rdDrop (c := c) hr hk hc)
    rw [List.length_drop] at this
    exact hK _ _ this
/-- log[:k]. -/
theorem sliceHi {ops : Array Oper} {rest : List Oper} {op : Oper} {a : Act} {w : World} {Q : Exit → Act → World → Prop} (hgd : op.guard = none) (x y : Operand) (ho : op.op = .slice 29 x none (some y) none)
    {A : Option Addr} {c k : Nat} {os : List OpV} (hx : a.eval x = .slice A os.length c) (hy : a.eval y = .int .i64 (k : Int)) (hk : k ≤ os.length) (hc : os.length ≤ c) (hr : RdO w A os)
    (K : ∀ A' c', RdO w A' (os.take k) → wpList Try.prog ops Q rest (a.put op.dst (.slice A' (os.take k).length c')) w) : wpList Try.prog ops Q (op :: rest) a w :=
  wpList_plain hgd fun _ hK => by
    unfold Oper.wp execOp
    simp only [ho, hx, hy, Option.map_some, Option.map_none, Sem.run_bind, Sem.run_pure, Result.andThen_ok, run_sliceHi A os.length c k (by omega) w]
    have := K _ c (rdTake (c := c) hr hk)
    rw [List.length_take, Nat.min_eq_left hk] at this
    exact hK _ _ this

theorem append_none (w : World) (lo : Nat) (v : Value) (os : List OpV) (hown : OwnsO w lo v os) (c : Nat) (ty : TypeId) : (Builtin.append_ #[29, 29] ty #[v, .slice none 0 c]).run Try.prog w = .ok v w := by
  obtain ⟨i0, hi, _, _, _⟩ := info_parts info104
  rcases hown.2 with ⟨rfl, h0⟩ | ⟨g, cap, cur, rfl, _, _, hnc, _⟩
  · simp [Builtin.append_, run_underlying Try.underlying29, sizeOf, typeInfo, hi, Builtin.lenOf, Builtin.firstCells]
  · simp [Builtin.append_, run_underlying Try.underlying29, sizeOf, typeInfo, hi, Builtin.lenOf, Builtin.firstCells, hnc, storeCells]
theorem rd_cells {w : World} {ad : Addr} {os : List OpV} (h : RdO w (some ad) os) : ∀ j u, (flat os)[j]? = some u → w.cell? (ad.add j) = some u := by
  intro j u hu
  rcases h with rfl | ⟨b, off, e, hr⟩
  · simp [flat] at hu
  · obtain rfl := Option.some.inj e
    have hj : j < os.length * 12 := by have := (List.getElem?_eq_some_iff.1 hu).1; rwa [flat_len] at this
    have hk : j / 12 < os.length := by omega
    have e2 : j = j / 12 * 12 + j % 12 := by omega
    rw [e2, flat_get os _ _ hk (by omega)] at hu
    have := hr _ hk _ _ hu
    rw [Addr.add_mid]
    rw [show off + j = off + j / 12 * 12 + j % 12 by omega]
    exact this

/-- append of a slice of operations. -/
theorem appendOs {ops : Array Oper} {rest : List Oper} {op : Oper} {a : Act} {w0 : World} {Q : Exit → Act → World → Prop} (hgd : op.guard = none) (s x : Operand)
    (ho : op.op = .call { callee := .builtin .append, args := #[s, x], argTypes := #[29, 29] }) {lo : Nat} {v : Value} {os ps : List OpV} {A : Option Addr} {c : Nat}
    (hs : a.eval s = v) (hx : a.eval x = .slice A ps.length c) (hown : OwnsO w0 lo v os) (hr : RdO w0 A ps) (hlen : os.length + ps.length ≤ 4194304) (hlo : lo ≤ w0.heap.size)
    (k : ∀ v' w', OwnsO w' lo v' (os ++ ps) → Below lo w0 w' → lo ≤ w'.heap.size → wpList Try.prog ops Q rest (a.put op.dst v') w') :
    wpList Try.prog ops Q (op :: rest) a w0 := by
  obtain ⟨i0, hi, hz0, hz1, hz2⟩ := info_parts info104
  rcases A with _ | ad
  · have h0 : ps = [] := by
      rcases hr with h | ⟨b, off, e, _⟩
      · exact h
      · cases e
    subst h0
    refine wpList_plain hgd fun _ hK => ?_
    unfold Oper.wp execOp
    simp only [ho, resolve, invoke, builtin, Sem.run_bind, Sem.run_pure, Result.andThen_ok, List.map_toArray, List.map_cons, List.map_nil, hs, hx, List.length_nil, append_none w0 lo v os hown c]
    exact hK _ _ (k v w0 (by rw [List.append_nil]; exact hown) (Below.refl _ _) hlo)
  · refine wpList_append_own _ hgd s x 29 ho lo 63 i0 _ 12 104 Try.underlying29 hi hz0 hz1 hz2 rfl (by omega) v os.length (flat os) hs hown ad ps.length c (flat ps) hx (flat_len ps) (rd_cells hr) (flat_one' ps) ?_ ?_ ?_ ?_
    · unfold maxLen; omega
    · omega
    · exact hlo
    · intro v' w' h1 h2 _
      refine k v' w' ?_ ((Below.refl lo w0).grown h2 hlo (fun k hk => ?_)) (Nat.le_trans hlo h2.size)
      · unfold OwnsO
        rw [List.length_append, flat_append]
        exact h1
      · exact (World.ownsRow.lt (show w0.ownsRow lo 63 12 v os.length (flat os) from hown) k hk).1

/-! ### Lists -/
def lt (o p : OpV) : Bool := slt o.i o.j p.i p.j
theorem lt_trans {o p q : OpV} (h : lt o p = true) (h' : lt p q = true) : lt o q = true := by
  simp [lt, slt] at h h' ⊢
  omega
/-- What one operation e of the second log does to the first, k being what comes behind. -/
def mstep (e : OpV) (k : List OpV → List OpV) : List OpV → List OpV
  | [] => e :: k []
  | x :: r => if lt x e then x :: mstep e k r else if lt e x then e :: k (x :: r) else k (x :: r)
/-- The union of two logs. -/
def uni : List OpV → List OpV → List OpV
  | [], s => s
  | e :: t, s => mstep e (uni t) s
/-- Sorted. -/
def srt : List OpV → Prop
  | [] => True
  | a :: r => (∀ x, r.head? = some x → lt a x = true) ∧ srt r
theorem srt_all : ∀ (r : List OpV) (a : OpV), srt (a :: r) → ∀ x ∈ r, lt a x = true
  | [], a, _, x, hx => by cases hx
  | b :: r, a, h, x, hx => by
    have hab := h.1 b rfl
    rcases List.mem_cons.1 hx with rfl | hx
    · exact hab
    · exact lt_trans hab (srt_all r b h.2 x hx)
theorem uni_head (t : List OpV) (x : OpV) (r : List OpV) (h : ∀ y ∈ t, lt x y = true) : uni t (x :: r) = x :: uni t r := by
  cases t with
  | nil => rfl
  | cons y t => show mstep y (uni t) (x :: r) = x :: mstep y (uni t) r; rw [mstep, if_pos (h y (by simp))]
theorem uni_mstep (t : List OpV) (e : OpV) (h : ∀ y ∈ t, lt e y = true) : ∀ s, uni t (mstep e id s) = mstep e (uni t) s
  | [] => uni_head t e [] h
  | x :: r => by
    unfold mstep
    by_cases h1 : lt x e = true
    · rw [if_pos h1, if_pos h1, uni_head t x _ (fun y hy => lt_trans h1 (h y hy)), uni_mstep t e h r]
    · rw [if_neg h1, if_neg h1]
      by_cases h2 : lt e x = true
      · rw [if_pos h2, if_pos h2]; exact uni_head t e _ h
      · rw [if_neg h2, if_neg h2]; rfl
theorem foldl_uni : ∀ (t : List OpV), srt t → ∀ s, t.foldl (fun s e => mstep e id s) s = uni t s
  | [], _, s => rfl
  | e :: t, h, s => by
    rw [List.foldl_cons, foldl_uni t h.2, uni_mstep t e (fun y hy => srt_all t e h y hy)]
    rfl
theorem mstep_len (e : OpV) (k : List OpV → List OpV) (n : Nat) (hk : ∀ s, (k s).length ≤ s.length + n) : ∀ s, (mstep e k s).length ≤ s.length + (n + 1)
  | [] => by have := hk []; simp [mstep] at this ⊢; omega
  | x :: r => by
    have h1 := mstep_len e k n hk r
    have h2 := hk (x :: r)
    unfold mstep
    split
    · simp; omega
    · split
      · simp at h2 ⊢; omega
      · simp at h2 ⊢; omega
theorem uni_len : ∀ (t s : List OpV), (uni t s).length ≤ s.length + t.length
  | [], s => by simp [uni]
  | e :: t, s => by
    show (mstep e (uni t) s).length ≤ _
    have := mstep_len e (uni t) t.length (uni_len t) s
    simpa using this
/-- A valid log is sorted. -/
theorem srt_of {os : List OpV} (h : ascTo os (os.length - 1) = true) : srt os := by
  have hh : ∀ k, k + 1 < os.length → lessAt os k = true := fun k hk => by
    unfold ascTo at h
    rw [List.all_eq_true] at h
    exact h k (by simp; omega)
  clear h
  induction os with
  | nil => trivial
  | cons a r ih =>
    refine ⟨fun x hx => ?_, ih fun k hk => ?_⟩
    · cases r with
      | nil => cases hx
      | cons b r' =>
        obtain rfl : b = x := by simpa using hx
        exact hh 0 (by simp)
    · exact hh (k + 1) (by simpa using hk)

end Go.Proofs.Ytdbnflgckcjlcaa.LgZ

/-
  LogPrefix and LogMissing of the program: contracts. For slices that read as lists of at most 2^20 entries.
-/
namespace Go.Proofs.Ytdbnflgckcjlcaa.LgS
open Go.RowKit Go.Proofs.Ytdbnflgckcjlcaa.Base Go.Proofs.Ytdbnflgckcjlcaa.St Go.Proofs.Ytdbnflgckcjlcaa.StB Go.Proofs.Ytdbnflgckcjlcaa.Vec Go.Proofs.Ytdbnflgckcjlcaa.Row Go.Proofs.Ytdbnflgckcjlcaa.VecA Go.Proofs.Ytdbnflgckcjlcaa.OpA Go.Proofs.Ytdbnflgckcjlcaa.OpB Go.Proofs.Ytdbnflgckcjlcaa.LgA Go.Proofs.Ytdbnflgckcjlcaa.LgB Go.Proofs.Ytdbnflgckcjlcaa.LgC Go.Proofs.Ytdbnflgckcjlcaa.LgF Go.Proofs.Ytdbnflgckcjlcaa.LgG Go.Proofs.Ytdbnflgckcjlcaa.LgH Go.Proofs.Ytdbnflgckcjlcaa.LgI Go.Proofs.Ytdbnflgckcjlcaa.LgP Go.Proofs.Ytdbnflgckcjlcaa.LgQ Go.Proofs.Ytdbnflgckcjlcaa.LgR
set_option linter.unusedVariables false

theorem cells36 : Try.prog.cellsOf 29 = 1 := by kernel_rfl
/-- The items of the ordered set that filter returned. -/
theorem field0 (a : Option Addr) (n c : Nat) (F : Value) (w : World) : (Instr.field 77 (.agg #[.slice a n c, F]) 0).run Try.prog w = .ok (.slice a n c) w := by
  simp [Instr.field, run_underlying Try.underlying77, asAgg, part, go_sem]

theorem vv3 {zs : List Int} (h : vv zs = true) : ∃ x y z, zs = [x, y, z] := by
  have h3 : zs.length = 3 := by simp [vv] at h; exact h.2
  match zs, h3 with
  | [x, y, z], _ => exact ⟨x, y, z, rfl⟩
theorem ent3 {x y z : Int} (h : vv [x, y, z] = true) : ent [x, y, z] 0 = x ∧ ent [x, y, z] 1 = y ∧ ent [x, y, z] 2 = z := by simp [ent, h]
theorem vst_j {s a : Int} (h : vst s a = true) : 0 ≤ a ∧ a ≤ 2 := ((vst_iff s a).1 h).2

end Go.Proofs.Ytdbnflgckcjlcaa.LgS

/-
  Marks, once more: contracts of markOpS, heldOpS, markIntS and heldIntS whose answers are letters. For rows of at most 2^20 entries.
-/
namespace Go.Proofs.Ytdbnflgckcjlcaa.LgT
open Go.RowKit Go.Proofs.Ytdbnflgckcjlcaa.Base Go.Proofs.Ytdbnflgckcjlcaa.St Go.Proofs.Ytdbnflgckcjlcaa.StB Go.Proofs.Ytdbnflgckcjlcaa.Vec Go.Proofs.Ytdbnflgckcjlcaa.Row Go.Proofs.Ytdbnflgckcjlcaa.RowB Go.Proofs.Ytdbnflgckcjlcaa.OpA Go.Proofs.Ytdbnflgckcjlcaa.OpB Go.Proofs.Ytdbnflgckcjlcaa.LgA Go.Proofs.Ytdbnflgckcjlcaa.LgB Go.Proofs.Ytdbnflgckcjlcaa.LgC Go.Proofs.Ytdbnflgckcjlcaa.LgN Go.Proofs.Ytdbnflgckcjlcaa.LgO
set_option linter.unusedVariables false

theorem markO (lo : Nat) (a : Option Addr) (c n : Nat) (f : Nat → OpV) (x : Int) (q0 : Nat) (y : Int) (w : World) (hx : x = q0) (hy : y = ((q0 + 12 * n : Nat) : Int)) (hr : RowO lo w a c n f) (hn : n ≤ 1048576) (hq0 : 1 ≤ q0) (hq : q0 ≤ 549755813888) :
    Calls Try.prog 16 #[.slice a n c, .int .i64 x] w fun e w' => e = .returned (.int .i64 y) ∧ RowO lo w' a c n (fun i => mk (q0 + 12 * i)) ∧ w.grownBy w' (blkA a) := by
  subst hx hy
  exact markRow lo a c n f q0 w hr hn hq0 hq
theorem heldO (lo : Nat) (a : Option Addr) (c n : Nat) (x : Int) (q0 : Nat) (y : Int) (w : World) (hx : x = q0) (hy : y = ((q0 + 12 * n : Nat) : Int)) (hr : RowO lo w a c n (fun i => mk (q0 + 12 * i))) (hn : n ≤ 1048576) (hq0 : 1 ≤ q0) (hq : q0 ≤ 549755813888) :
    Calls Try.prog 17 #[.slice a n c, .int .i64 x] w fun e w' => e = .returned (.int .i64 y) ∧ Below w.heap.size w w' := by
  subst hx hy
  exact heldRow lo a c n q0 w hr hn hq0 hq
/-- A slice over a new block. -/
theorem newRowO {lo : Nat} {w : World} {b : Nat} {os : List OpV} (hb : lo ≤ b) (h : OwnO w b os.length os.length (fun i => os.getD i zop)) : RowO lo w (some ⟨b, 0, none⟩) os.length os.length (fun i => os.getD i zop) := .inr ⟨b, rfl, hb, h⟩
theorem newRowF {lo : Nat} {w : World} {b : Nat} {zs : List Int} (hb : lo ≤ b) (h : OwnI w b zs.length zs.length (fun i => zs.getD i 0)) : RowF lo w (some ⟨b, 0, none⟩) zs.length zs.length (fun i => zs.getD i 0) := .inr ⟨b, rfl, hb, h⟩
/-- The values returned are the slice of os (nil, or in new memory) and a Bool. -/
def GivesOB (w : World) (os : List OpV) (t : Bool) (e : Ending) (w' : World) : Prop :=
  ∃ a c, e = .returned (.tuple #[.slice a os.length c, .bool t]) ∧ RowO w.heap.size w' a c os.length (fun i => os.getD i zop) ∧ Below w.heap.size w w'

end Go.Proofs.Ytdbnflgckcjlcaa.LgT

/-
  logVector and LogVector of the model: contracts. For slices that read as a list of at most 2^20 operations.
-/
namespace Go.Proofs.Ytdbnflgckcjlcaa.LgW
open Go.RowKit Go.Proofs.Ytdbnflgckcjlcaa.Base Go.Proofs.Ytdbnflgckcjlcaa.St Go.Proofs.Ytdbnflgckcjlcaa.StB Go.Proofs.Ytdbnflgckcjlcaa.Vec Go.Proofs.Ytdbnflgckcjlcaa.Row Go.Proofs.Ytdbnflgckcjlcaa.RowB Go.Proofs.Ytdbnflgckcjlcaa.OpA Go.Proofs.Ytdbnflgckcjlcaa.OpB Go.Proofs.Ytdbnflgckcjlcaa.LgA Go.Proofs.Ytdbnflgckcjlcaa.LgB Go.Proofs.Ytdbnflgckcjlcaa.LgC Go.Proofs.Ytdbnflgckcjlcaa.LgF Go.Proofs.Ytdbnflgckcjlcaa.LgI Go.Proofs.Ytdbnflgckcjlcaa.LgP Go.Proofs.Ytdbnflgckcjlcaa.LgS
set_option linter.unusedVariables false

/-- The largest sequence number of author x among the first k operations, or 0. -/
def vmx (os : List OpV) : Nat → Nat → Int
  | 0, _ => 0
  | k + 1, x => if (os.getD k zop).j = (x : Int) ∧ vmx os k x < (os.getD k zop).i then (os.getD k zop).i else vmx os k x
/-- The vector of a log. -/
def lvec (os : List OpV) : List Int := if vlog os then [vmx os os.length 0, vmx os os.length 1, vmx os os.length 2] else []

theorem vj_of {os : List OpV} (h : allTo os os.length = true) {k : Nat} (hk : k < os.length) : ∃ A : Nat, (os.getD k zop).j = (A : Int) ∧ A ≤ 2 := by
  obtain ⟨h0, h1⟩ := vst_j (vst_of h hk)
  exact ⟨(os.getD k zop).j.toNat, by omega, by omega⟩

set_option maxRecDepth 100000 in
set_option maxHeartbeats 1000000 in
theorem spec_logVector (a : Option Addr) (c : Nat) (os : List OpV) (w : World) (hr : RdO w a os) (hl : os.length ≤ 1048576) (hok : allTo os os.length = true) :
    Calls Try.prog 65 #[.slice a os.length c] w (Gives w [vmx os os.length 0, vmx os os.length 1, vmx os os.length 2]) := by
  have HOK := Lib.hid (fun k (hk : k < os.length) => vj_of hok hk)
  clear hok
  have hmk : ∀ w : World, (Instr.makeSlice 101 (.int .i64 3) (.int .i64 3)).run Try.prog w = .ok (.slice (some ⟨w.heap.size, 0, none⟩) 3 3) (w.alloc (.cells (madeCells #[.int .i64 0] 3) 3)) :=
    fun w => run_make_row' (P := Try.prog) 101 3 (.int .i64 0) 8 Try.underlying101 info_int rfl .i64 .i64 3 (by omega) (by omega) w
  have H3 : OwnI (w.alloc (.cells (madeCells #[.int .i64 0] 3) 3)) w.heap.size 3 3 (fun _ => 0) := ⟨fun _ => .int .i64 0, World.rowIs_made w (.int .i64 0) 3 3, Nat.le_refl _, fun i _ => rfl⟩
  have HOW := Lib.hid H3
  have fin : ∀ (W : World), OwnI W w.heap.size 3 3 (fun i => vmx os os.length i) → Below w.heap.size w W → Gives w [vmx os os.length 0, vmx os os.length 1, vmx os os.length 2] (.returned (.slice (some ⟨w.heap.size, 0, none⟩) 3 3)) W := fun W h hb =>
    ⟨some ⟨w.heap.size, 0, none⟩, 3, rfl, .inr ⟨w.heap.size, rfl, Nat.le_refl _, h.congr fun i hi => by
      obtain rfl | rfl | rfl : i = 0 ∨ i = 1 ∨ i = 2 := by
        have : i < 3 := hi
        omega
      all_goals rfl⟩, hb⟩
  have FIN := Lib.hid fin
  clear fin H3
  rcases hr with rfl | ⟨b, off, rfl, hc⟩
  · go_enter Try.func65, Try.ntmps65
    go_wp2
    go_rounds 1
    go_ret
    exact FIN.out _ (HOW.out.congr fun i hi => rfl) ((Below.refl _ _).alloc (Nat.le_refl _) _)
  · have HC := Lib.hid hc
    clear hc
    go_enter Try.func65, Try.ntmps65
    go_wp2
    clear hmk
    go_loopw [4] (fun i wr => ∃ k : Nat, k ≤ os.length ∧ i = .int .i64 k ∧ OwnI wr w.heap.size 3 3 (fun x => vmx os k x) ∧ Below w.heap.size w wr) (fun i _ => os.length - (intOf i).toNat)
    case atStart => exact ⟨0, Nat.zero_le _, rfl, HOW.out.congr fun i hi => rfl, (Below.refl _ _).alloc (Nat.le_refl _) _⟩
    case round =>
      obtain ⟨k, hk, rfl, hown, hnx⟩ := hrel
      by_cases hlt : k < os.length
      · obtain ⟨o, ho⟩ : ∃ o, o = os.getD k zop := ⟨_, rfl⟩
        obtain ⟨A, hA, hA2⟩ := HOK.out k hlt
        rw [← ho] at hA
        have hr := (by rw [ho]; exact rangeAt_below (HC.out k hlt) hnx (rangeAt_lt (HC.out k hlt)) : wr.rangeAt b (off + k * 12) (opL o))
        obtain ⟨q0, q1, _, _, _, _, _, _, _, _, _, _⟩ := c12 hr
        rw [hA] at q1
        have hco : wr.cell? ⟨w.heap.size, A, none⟩ = some (.int .i64 (vmx os k A)) := hown.cell (by omega)
        have hfo := hown.frozen A
        have hbl : w.heap.size < wr.heap.size := hown.lt
        have HO := Lib.hid ho
        have HA := Lib.hid hA
        have HOWN := Lib.hid hown
        obtain ⟨m, hm⟩ : ∃ m, vmx os k A = m := ⟨_, rfl⟩
        rw [hm] at hco
        have HM := Lib.hid hm
        obtain ⟨s, hs⟩ : ∃ s, o.i = s := ⟨_, rfl⟩
        rw [hs] at q0
        have HS := Lib.hid hs
        have hk0 : (0 : Int) ≤ (k : Int) := Int.natCast_nonneg _
        have hk1 : (k : Int) < (os.length : Int) := by omega
        have hA0 : (0 : Int) ≤ (A : Int) := Int.natCast_nonneg _
        have hA1 : (A : Int) < 3 := by omega
        clear ho hr hA hown hm hs
        by_cases hgt : m < s
        · have hd : decide (m < s) = true := decide_eq_true hgt
          go_wp2
          go_quiet (fail)
          go_wp2
          go_region
          go_wp2
          go_roundw
          case rel =>
            refine ⟨k + 1, by omega, by go_num, ((HOWN.out.of_block (w' := wr.drewN _) rfl).set A s).congr fun x hx => ?_, (belowN hnx _).setCell (Nat.le_refl _) _⟩
            show (if x = A then s else vmx os k x) = vmx os (k + 1) x
            rw [vmx, ← HO.out, HA.out, HS.out]
            by_cases e : x = A
            · subst e; rw [if_pos rfl, HM.out, if_pos ⟨rfl, hgt⟩]
            · rw [if_neg e, if_neg (fun h => e (by omega))]
          case measure => simp [intOf]; omega
        · have hd : decide (m < s) = false := decide_eq_false hgt
          go_wp2
          go_quiet (fail)
          go_wp2
          go_roundw
          case rel =>
            refine ⟨k + 1, by omega, by go_num, HOWN.out.congr fun x hx => ?_, belowN hnx _⟩
            show vmx os k x = vmx os (k + 1) x
            rw [vmx, ← HO.out, HA.out, HS.out]
            by_cases e : A = x
            · subst e; rw [HM.out, if_neg (by omega)]
            · rw [if_neg (by omega)]
          case measure => simp [intOf]; omega
      · obtain rfl : k = os.length := by omega
        go_wp2
        go_ret
        exact FIN.out _ hown hnx

end Go.Proofs.Ytdbnflgckcjlcaa.LgW
