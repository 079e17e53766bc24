/-
  Slices of operations: how one reads as a list of operations; a row of operations of the call's own; what stores do to it. Plain facts on worlds; no condition.
-/
import Derived.Test.YtdbnflgckcjlcaaK1
import Derived.Deep.MidRow
import Derived.Deep.OwnRows
import Derived.Laws.OwnMore
import Derived.BigQuiet
import Derived.Deep.QuietTactic
import Derived.Outline
import Derived.Deep.DrawnRows
import Derived.IntWalk
import Derived.Laws.EntriesVeiled
namespace Go.Proofs.Ytdbnflgckcjlcaa.LgA
open Go.RowKit Go.Proofs.Ytdbnflgckcjlcaa.Base Go.Proofs.Ytdbnflgckcjlcaa.St Go.Proofs.Ytdbnflgckcjlcaa.StB Go.Proofs.Ytdbnflgckcjlcaa.OpA Go.Proofs.Ytdbnflgckcjlcaa.OpB
set_option linter.unusedVariables false

/-- The twelve cells of an operation. -/
def opL (o : OpV) : List Value := [.int .i64 o.i, .int .i64 o.j, .int .i64 o.k, .int .i64 o.ts, .int .i64 o.ta, .int .i64 o.fs, .int .i64 o.fa, .int .i64 o.ns, .int .i64 o.na, .int .i64 o.v, .bool o.en, .string o.tx]
theorem opL_len (o : OpV) : (opL o).length = 12 := rfl
def zop : OpV := ⟨0, 0, 0, 0, 0, 0, 0, 0, 0, 0, false, ByteArray.empty⟩
theorem opL_inj {o p : OpV} (h : opL o = opL p) : o = p := by
  cases o; cases p
  simpa [opL] using h

/-- The slice at address a reads as the operations os. -/
def RdO (w : World) (a : Option Addr) (os : List OpV) : Prop :=
  os = [] ∨ ∃ b off, a = some ⟨b, off, none⟩ ∧ ∀ k, k < os.length → w.rangeAt b (off + k * 12) (opL (os.getD k zop))

theorem rangeAt_cell {w : World} {b o : Nat} {x : OpV} (h : w.rangeAt b o (opL x)) (j : Nat) (hj : j < 12) : w.cell? ⟨b, o + j, none⟩ = some ((opL x).getD j undef) :=
  h j _ (by rw [List.getD_eq_getElem?_getD, List.getElem?_eq_getElem (by rw [opL_len]; exact hj)]; rfl)
/-- The twelve cells of an operation, one by one. -/
abbrev C12 (w : World) (b o : Nat) (x : OpV) : Prop := w.cell? ⟨b, o, none⟩ = some (.int .i64 x.i) ∧ w.cell? ⟨b, o + 1, none⟩ = some (.int .i64 x.j) ∧ w.cell? ⟨b, o + 2, none⟩ = some (.int .i64 x.k) ∧ w.cell? ⟨b, o + 3, none⟩ = some (.int .i64 x.ts) ∧ w.cell? ⟨b, o + 4, none⟩ = some (.int .i64 x.ta) ∧ w.cell? ⟨b, o + 5, none⟩ = some (.int .i64 x.fs) ∧ w.cell? ⟨b, o + 6, none⟩ = some (.int .i64 x.fa) ∧ w.cell? ⟨b, o + 7, none⟩ = some (.int .i64 x.ns) ∧ w.cell? ⟨b, o + 8, none⟩ = some (.int .i64 x.na) ∧ w.cell? ⟨b, o + 9, none⟩ = some (.int .i64 x.v) ∧ w.cell? ⟨b, o + 10, none⟩ = some (.bool x.en) ∧ w.cell? ⟨b, o + 11, none⟩ = some (.string x.tx)
theorem c12 {w : World} {b o : Nat} {x : OpV} (h : w.rangeAt b o (opL x)) : C12 w b o x :=
  ⟨rangeAt_cell h 0 (by omega), rangeAt_cell h 1 (by omega), rangeAt_cell h 2 (by omega), rangeAt_cell h 3 (by omega), rangeAt_cell h 4 (by omega), rangeAt_cell h 5 (by omega), rangeAt_cell h 6 (by omega), rangeAt_cell h 7 (by omega), rangeAt_cell h 8 (by omega), rangeAt_cell h 9 (by omega), rangeAt_cell h 10 (by omega), rangeAt_cell h 11 (by omega)⟩
theorem rangeAt_lt {w : World} {b o : Nat} {x : OpV} (h : w.rangeAt b o (opL x)) : b < w.heap.size := World.block_lt_of_cell? w _ (rangeAt_cell h 0 (by omega))
theorem rangeAt_block {w w' : World} {b o : Nat} {cs : List Value} (h : w.rangeAt b o cs) (e : w'.heap[b]? = w.heap[b]?) : w'.rangeAt b o cs :=
  fun j v hv => (World.cell?_of_block (w := w) e).trans (h j v hv)
theorem rangeAt_below {B : Nat} {w w' : World} {b o : Nat} {cs : List Value} (h : w.rangeAt b o cs) (hb : Below B w w') (hl : b < B) : w'.rangeAt b o cs := rangeAt_block h (hb.block b hl)

theorem RdO.below {w w' : World} {a : Option Addr} {os : List OpV} (h : RdO w a os) (hb : Below w.heap.size w w') : RdO w' a os := by
  rcases h with h | ⟨b, off, ha, hc⟩
  · exact .inl h
  · exact .inr ⟨b, off, ha, fun k hk => rangeAt_below (hc k hk) hb (rangeAt_lt (hc k hk))⟩
def blkA (a : Option Addr) : Option Nat := a.map (·.block)
theorem RdO.grown {w w' : World} {a : Option Addr} {os : List OpV} {r : Option Nat} (h : RdO w a os) (hb : w.grownBy w' r) (hne : ∀ b, blkA a = some b → r ≠ some b) : RdO w' a os := by
  rcases h with h | ⟨b, off, rfl, hc⟩
  · exact .inl h
  · exact .inr ⟨b, off, rfl, fun k hk => rangeAt_block (hc k hk) (hb.block b (rangeAt_lt (hc k hk)) (fun e => hne b rfl e.symm))⟩

/-- Block b is a row of c operations of the call's own; the first n are f 0, f 1, .. -/
def OwnO (w : World) (b c n : Nat) (f : Nat → OpV) : Prop :=
  ∃ g : Nat → Value, w.rowIs b 63 (c * 12) g ∧ n ≤ c ∧ ∀ k, k < n → ∀ j, j < 12 → g (k * 12 + j) = (opL (f k)).getD j undef
theorem OwnO.lt {w : World} {b c n : Nat} {f : Nat → OpV} (h : OwnO w b c n f) : b < w.heap.size := by obtain ⟨g, h, _⟩ := h; exact h.lt
theorem OwnO.le {w : World} {b c n : Nat} {f : Nat → OpV} (h : OwnO w b c n f) : n ≤ c := by obtain ⟨g, _, h, _⟩ := h; exact h
theorem OwnO.range {w : World} {b c n : Nat} {f : Nat → OpV} (h : OwnO w b c n f) {k : Nat} (hk : k < n) : w.rangeAt b (k * 12) (opL (f k)) := by
  obtain ⟨g, h, hn, hg⟩ := h
  intro j v hv
  have hj : j < 12 := by
    have := (List.getElem?_eq_some_iff.1 hv).1
    rwa [opL_len] at this
  rw [h.cell (i := k * 12 + j) (by omega), hg k hk j hj, List.getD_eq_getElem?_getD, hv]
  rfl
theorem OwnO.frozen {w : World} {b c n : Nat} {f : Nat → OpV} (h : OwnO w b c n f) (i : Nat) : w.frozen? ⟨b, i, none⟩ = false := by
  obtain ⟨g, h, _⟩ := h
  exact h.frozen i
theorem OwnO.there {w : World} {b c n : Nat} {f : Nat → OpV} (h : OwnO w b c n f) {k : Nat} (hk : k < c) : w.there b (k * 12) 12 := by
  obtain ⟨g, h, hn, hg⟩ := h
  intro j hj
  exact ⟨by rw [h.cell (i := k * 12 + j) (by omega)]; rfl, h.frozen _⟩
theorem OwnO.of_block {w w' : World} {b c n : Nat} {f : Nat → OpV} (h : OwnO w b c n f) (e : w'.heap[b]? = w.heap[b]?) : OwnO w' b c n f := by
  obtain ⟨g, h, hn, hg⟩ := h
  exact ⟨g, h.of_block e, hn, hg⟩
theorem OwnO.below {w w' : World} {b c n : Nat} {f : Nat → OpV} (h : OwnO w b c n f) (hb : Below w.heap.size w w') : OwnO w' b c n f := h.of_block (hb.block b h.lt)
theorem OwnO.grown {w w' : World} {b c n : Nat} {f : Nat → OpV} {r : Option Nat} (h : OwnO w b c n f) (hb : w.grownBy w' r) (hne : r ≠ some b) : OwnO w' b c n f :=
  h.of_block (hb.block b h.lt (fun e => hne e.symm))
theorem OwnO.congr {w : World} {b c n : Nat} {f f' : Nat → OpV} (h : OwnO w b c n f) (e : ∀ k, k < n → f k = f' k) : OwnO w b c n f' := by
  obtain ⟨g, h, hn, hg⟩ := h
  exact ⟨g, h, hn, fun k hk j hj => by rw [hg k hk j hj, e k hk]⟩
theorem rowIs_setCells {b : Nat} {t : TypeId} {n : Nat} : ∀ (vs : List Value) (o : Nat) (w : World) (f : Nat → Value), w.rowIs b t n f → (w.setCells b o vs).rowIs b t n (fun i => if o ≤ i ∧ i < o + vs.length then vs.getD (i - o) undef else f i)
  | [], o, w, f, h => h.congr fun i _ => by
      have : ¬ (o ≤ i ∧ i < o + ([] : List Value).length) := by simp
      rw [if_neg this]
  | v :: r, o, w, f, h => by
      refine (rowIs_setCells r (o + 1) _ _ (h.set o v)).congr fun i _ => ?_
      by_cases e : i = o
      · subst e
        rw [if_neg (by omega), if_pos rfl, if_pos (by simp)]
        simp
      · rw [if_neg e]
        by_cases h1 : o + 1 ≤ i ∧ i < o + 1 + r.length
        · rw [if_pos h1, if_pos (by simp; omega)]
          rw [show i - o = (i - (o + 1)) + 1 by omega]
          simp
        · rw [if_neg h1, if_neg (by simp; omega)]
theorem heap_setCells (b : Nat) (k : Nat) (hk : k ≠ b) : ∀ (vs : List Value) (o : Nat) (w : World), (w.setCells b o vs).heap[k]? = w.heap[k]?
  | [], _, _ => rfl
  | v :: r, o, w => (heap_setCells b k hk r (o + 1) _).trans (Below.heap_setCell w ⟨b, o, none⟩ v k hk)
theorem size_setCells (b : Nat) : ∀ (vs : List Value) (o : Nat) (w : World), (w.setCells b o vs).heap.size = w.heap.size
  | [], _, _ => rfl
  | v :: r, o, w => (size_setCells b r (o + 1) _).trans (by simp [World.setCell])
theorem below_setCells {B : Nat} {a : World} {b : Nat} (hB : B ≤ b) : ∀ (vs : List Value) (o : Nat) (w : World), Below B a w → Below B a (w.setCells b o vs)
  | [], _, _, h => h
  | v :: r, o, w, h => below_setCells hB r (o + 1) _ (h.setCell hB v)
/-- A whole operation goes into the row. -/
theorem OwnO.put {w : World} {b c n : Nat} {f : Nat → OpV} (h : OwnO w b c n f) {k : Nat} (_hk : k < c) (o : OpV) : OwnO (w.setCells b (k * 12) (opL o)) b c n (fun i => if i = k then o else f i) := by
  obtain ⟨g, h, hn, hg⟩ := h
  refine ⟨_, rowIs_setCells (opL o) (k * 12) w g h, hn, fun i hi j hj => ?_⟩
  show _ = (opL (if i = k then o else f i)).getD j undef
  by_cases e : i = k
  · subst e
    rw [if_pos (by rw [opL_len]; omega), if_pos rfl, show i * 12 + j - i * 12 = j by omega]
  · rw [if_neg (by rw [opL_len]; omega), if_neg e, hg i hi j hj]
theorem OwnO.rd {w : World} {b c : Nat} {os : List OpV} (h : OwnO w b c os.length (fun i => os.getD i zop)) : RdO w (some ⟨b, 0, none⟩) os :=
  .inr ⟨b, 0, rfl, fun k hk => by rw [Nat.zero_add]; exact h.range hk⟩

/-- The flat cells of a list of operations. -/
def flat (os : List OpV) : List Value := os.flatMap opL
theorem flat_nil : flat [] = [] := rfl
theorem flat_len (os : List OpV) : (flat os).length = os.length * 12 := by
  induction os with
  | nil => rfl
  | cons o r ih => simp only [flat, List.flatMap_cons, List.length_append] at ih ⊢; rw [ih, opL_len, List.length_cons]; omega
theorem flat_append (a b : List OpV) : flat (a ++ b) = flat a ++ flat b := by simp [flat]
theorem flat_one (o : OpV) : flat [o] = opL o := by simp [flat]
theorem flat_get : ∀ (os : List OpV) (k j : Nat), k < os.length → j < 12 → (flat os)[k * 12 + j]? = (opL (os.getD k zop))[j]?
  | [], k, j, h, _ => absurd h (by simp)
  | o :: r, 0, j, _, hj => by
      show (opL o ++ flat r)[0 * 12 + j]? = _
      rw [Nat.zero_mul, Nat.zero_add, List.getElem?_append_left (by rw [opL_len]; exact hj)]
      rfl
  | o :: r, k + 1, j, h, hj => by
      show (opL o ++ flat r)[(k + 1) * 12 + j]? = _
      rw [List.getElem?_append_right (by rw [opL_len]; omega), opL_len, show (k + 1) * 12 + j - 12 = k * 12 + j by omega, flat_get r k j (by simpa using h) hj]
      simp
theorem flat_one' (os : List OpV) : ∀ u ∈ flat os, u.oneCell' = true := by
  intro u hu
  obtain ⟨o, _, ho⟩ := List.mem_flatMap.1 hu
  simp only [opL, List.mem_cons, List.not_mem_nil, or_false] at ho
  rcases ho with rfl | rfl | rfl | rfl | rfl | rfl | rfl | rfl | rfl | rfl | rfl | rfl <;> rfl

/-- A slice value that the call owns, holding the operations os. -/
def RowO (lo : Nat) (w : World) (a : Option Addr) (c n : Nat) (f : Nat → OpV) : Prop :=
  (a = none ∧ n = 0) ∨ ∃ b, a = some ⟨b, 0, none⟩ ∧ lo ≤ b ∧ OwnO w b c n f
theorem RowO.rd {lo : Nat} {w : World} {a : Option Addr} {c : Nat} {os : List OpV} (h : RowO lo w a c os.length (fun i => os.getD i zop)) : RdO w a os := by
  rcases h with ⟨_, h0⟩ | ⟨b, rfl, _, h⟩
  · exact .inl (List.eq_nil_of_length_eq_zero h0)
  · exact h.rd
theorem RowO.below {lo : Nat} {w w' : World} {a : Option Addr} {c n : Nat} {f : Nat → OpV} (h : RowO lo w a c n f) (hb : Below w.heap.size w w') : RowO lo w' a c n f := by
  rcases h with h | ⟨b, ha, hl, h⟩
  · exact .inl h
  · exact .inr ⟨b, ha, hl, h.below hb⟩
theorem RowO.hi {lo : Nat} {w : World} {a : Option Addr} {c n : Nat} {f : Nat → OpV} (h : RowO lo w a c n f) : ∀ b, blkA a = some b → lo ≤ b ∧ b < w.heap.size := by
  rcases h with ⟨rfl, _⟩ | ⟨b, rfl, hl, h⟩
  · intro b hb; cases hb
  · intro b' hb
    obtain rfl : b = b' := by simpa [blkA] using hb
    exact ⟨hl, h.lt⟩
theorem RowO.grown {lo : Nat} {w w' : World} {a : Option Addr} {c n : Nat} {f : Nat → OpV} {r : Option Nat} (h : RowO lo w a c n f) (hb : w.grownBy w' r) (hne : ∀ b, blkA a = some b → r ≠ some b) : RowO lo w' a c n f := by
  rcases h with h | ⟨b, rfl, hl, h⟩
  · exact .inl h
  · exact .inr ⟨b, rfl, hl, h.grown hb (hne b rfl)⟩

/-- What the library's append and make leave. -/
theorem ownedO {base : Nat} {w : World} {v : Value} {os : List OpV} (h : w.ownsRow base 63 12 v os.length (flat os)) :
    ∃ a c, v = .slice a os.length c ∧ RowO base w a c os.length (fun i => os.getD i zop) := by
  rcases h.2 with ⟨rfl, h0⟩ | ⟨g, cap, cur, rfl, hb, hh, hn, hm, hs, ht⟩
  · exact ⟨none, 0, by rw [h0], .inl ⟨rfl, h0⟩⟩
  · refine ⟨_, _, rfl, .inr ⟨g, rfl, hb, fun i => cur.getD i undef, ⟨cur, hh, hs, fun i hi => ?_⟩, hn, fun k hk j hj => ?_⟩⟩
    · show cur[i]? = some (cur.getD i undef)
      rw [Array.getD_eq_getD_getElem?, Array.getElem?_eq_getElem (by omega)]; rfl
    · have e : (cur.toList.take (os.length * 12))[k * 12 + j]? = (flat os)[k * 12 + j]? := by rw [ht]
      rw [List.getElem?_take_of_lt (by omega), flat_get os k j hk hj, Array.getElem?_toList] at e
      show cur.getD (k * 12 + j) undef = (opL (os.getD k zop)).getD j undef
      rw [Array.getD_eq_getD_getElem?, List.getD_eq_getElem?_getD, e]

/-- The value returned is the slice of os: nil, or in new memory. -/
def GivesO (w : World) (os : List OpV) (e : Ending) (w' : World) : Prop :=
  ∃ a c, e = .returned (.slice a os.length c) ∧ RowO w.heap.size w' a c os.length (fun i => os.getD i zop) ∧ Below w.heap.size w w'

end Go.Proofs.Ytdbnflgckcjlcaa.LgA

/-
  What the exact laws do with slices of operations: szOpS counts, toOpS copies one into new memory. For slices of operations that read as a list of at most 2^20.
-/
namespace Go.Proofs.Ytdbnflgckcjlcaa.LgB
open Go.RowKit Go.Proofs.Ytdbnflgckcjlcaa.Base Go.Proofs.Ytdbnflgckcjlcaa.St Go.Proofs.Ytdbnflgckcjlcaa.StB Go.Proofs.Ytdbnflgckcjlcaa.OpA Go.Proofs.Ytdbnflgckcjlcaa.OpW Go.Proofs.Ytdbnflgckcjlcaa.OpB Go.Proofs.Ytdbnflgckcjlcaa.OpT Go.Proofs.Ytdbnflgckcjlcaa.LgA
set_option linter.unusedVariables false

theorem size_lop : (Try.prog.info? 69).map (·.size) = some 12 := by kernel_rfl
theorem size_iop : (Try.prog.info? 63).map (·.size) = some 12 := by kernel_rfl
/-- A whole operation is read out of a slice: of the law's type, of the program's. -/
theorem loadL {ops : Array Oper} {rest : List Oper} {op : Oper} {a : Act} {w : World} {Q : Exit → Act → World → Prop} (hgd : op.guard = none) (x : Operand) (ho : op.op = .load 69 x) {b o : Nat} {y : OpV}
    (hx : a.eval x = .pointer (some ⟨b, o, none⟩)) (h : w.rangeAt b o (opL y)) (k : wpList Try.prog ops Q rest (a.put op.dst (.agg #[.int .i64 y.i, .int .i64 y.j, .int .i64 y.k, .int .i64 y.ts, .int .i64 y.ta, .int .i64 y.fs, .int .i64 y.fa, .int .i64 y.ns, .int .i64 y.na, .int .i64 y.v, .bool y.en, .string y.tx])) w) : wpList Try.prog ops Q (op :: rest) a w :=
  wpList_load_mid hgd 69 x ho b o hx (opL y) _ h Try.underlying69 rfl size_lop k
theorem loadI {ops : Array Oper} {rest : List Oper} {op : Oper} {a : Act} {w : World} {Q : Exit → Act → World → Prop} (hgd : op.guard = none) (x : Operand) (ho : op.op = .load 63 x) {b o : Nat} {y : OpV}
    (hx : a.eval x = .pointer (some ⟨b, o, none⟩)) (h : w.rangeAt b o (opL y)) (k : wpList Try.prog ops Q rest (a.put op.dst (.agg #[.int .i64 y.i, .int .i64 y.j, .int .i64 y.k, .int .i64 y.ts, .int .i64 y.ta, .int .i64 y.fs, .int .i64 y.fa, .int .i64 y.ns, .int .i64 y.na, .int .i64 y.v, .bool y.en, .string y.tx])) w) : wpList Try.prog ops Q (op :: rest) a w :=
  wpList_load_mid hgd 63 x ho b o hx (opL y) _ h Try.underlying63 rfl size_iop k

/-- A whole operation goes into a slice. -/
theorem storeI {ops : Array Oper} {rest : List Oper} {op : Oper} {a : Act} {w : World} {Q : Exit → Act → World → Prop} (hgd : op.guard = none) (x y : Operand) (ho : op.op = .store 63 x y) {b o : Nat} {v : OpV}
    (hx : a.eval x = .pointer (some ⟨b, o, none⟩)) (hy : a.eval y = .agg #[.int .i64 v.i, .int .i64 v.j, .int .i64 v.k, .int .i64 v.ts, .int .i64 v.ta, .int .i64 v.fs, .int .i64 v.fa, .int .i64 v.ns, .int .i64 v.na, .int .i64 v.v, .bool v.en, .string v.tx]) (h : w.there b o 12) (k : wpList Try.prog ops Q rest (a.put op.dst undef) (w.setCells b o (opL v))) : wpList Try.prog ops Q (op :: rest) a w :=
  wpList_store_mid hgd 63 x y ho b o _ hx hy h size_iop (by simp [Value.oneCell']) k

/-- A whole operation is read in a drawn region that only reads. -/
theorem quietI {ops : Array Oper} {rest : List Oper} {op : Oper} {a : Act} {C : World → Prop} {Q : Act → Prop} (hgd : op.guard = none) (x : Operand) (ho : op.op = .load 63 x) {b o : Nat} {y : OpV}
    (hx : a.eval x = .pointer (some ⟨b, o, none⟩)) (h : ∀ W, C W → W.rangeAt b o (opL y)) (k : wpQuiet Try.prog ops C Q rest (a.put op.dst (.agg #[.int .i64 y.i, .int .i64 y.j, .int .i64 y.k, .int .i64 y.ts, .int .i64 y.ta, .int .i64 y.fs, .int .i64 y.fa, .int .i64 y.ns, .int .i64 y.na, .int .i64 y.v, .bool y.en, .string y.tx]))) : wpQuiet Try.prog ops C Q (op :: rest) a :=
  wpQuiet_step fun K hK => by
    rw [if_pos (by simp [Region.wanted, hgd])]
    exact ⟨_, fun W hW => by
    have hr := run_loadVar_mid (P := Try.prog) W b o 63 (opL y) _ (h W hW) Try.underlying63 rfl size_iop
    unfold Oper.quietAt execOp
    simp only [ho, hx, Instr.loadAt, Instr.sureAddr, Sem.run_bind, Sem.run_pure, Result.andThen_ok, hr]
    exact ⟨rfl, rfl⟩, hK _ k⟩

/-- What szOpS gives: the room that is left, or -1. -/
def SzOk (n : Nat) (left : Int) (w : World) (e : Ending) (w' : World) : Prop :=
  (e = .returned (.int .i64 (-1)) ∨ ∃ r : Int, 0 ≤ r ∧ r ≤ left ∧ (n : Int) ≤ left ∧ e = .returned (.int .i64 r)) ∧ Below w.heap.size w w'

theorem szV_cases (o : OpV) (left : Int) (h : 0 ≤ left) : szV o left = -1 ∨ (0 ≤ szV o left ∧ szV o left ≤ left) := by
  unfold szV
  by_cases h1 : left - o.tx.size < 0
  · left; rw [if_pos h1]
  · right; rw [if_neg h1]; omega

set_option maxRecDepth 100000 in
theorem szOpS (a : Option Addr) (c : Nat) (os : List OpV) (left : Int) (w : World) (hr : RdO w a os) (hm : os.length ≤ maxLen) (ht : ∀ k, k < os.length → (os.getD k zop).tx.size ≤ maxLen) (hl : 0 ≤ left ∧ left ≤ 1048576) :
    Calls Try.prog 11 #[.slice a os.length c, .int .i64 left] w (SzOk os.length left w) := by
  obtain ⟨hl0, hl1⟩ := hl
  unfold maxLen at hm
  have HT := Lib.hid ht
  clear ht
  rcases hr with rfl | ⟨b, off, rfl, hc⟩
  · go_enter Try.func11, Try.ntmps11
    go_wp2
    go_rounds 1
    go_ret
    exact ⟨.inr ⟨left, hl0, Int.le_refl _, by simpa using hl0, ret_int (by simp)⟩, Below.refl _ _⟩
  · have HC := Lib.hid hc
    clear hc
    by_cases h0 : left - os.length < 0
    · go_enter Try.func11, Try.ntmps11
      go_wp2
      go_ret
      exact ⟨.inl rfl, Below.refl _ _⟩
    · have hn : os.length ≤ 1048576 := by omega
      clear hm
      go_enter Try.func11, Try.ntmps11
      go_wp2

      go_loopw [1, 5] (fun l i wr => ∃ (k : Nat) (r : Int), k ≤ os.length ∧ i = .int .i64 k ∧ 0 ≤ r ∧ r ≤ left ∧ l = .int .i64 r ∧ Below w.heap.size w wr) (fun _ i _ => os.length - (intOf i).toNat)
      case atStart => exact ⟨0, left - os.length, Nat.zero_le _, rfl, by omega, by omega, rfl, Below.refl _ _⟩
      case round =>
        obtain ⟨k, r, hk, rfl, hr0, hr1, rfl, hnx⟩ := hrel
        by_cases hlt : k < os.length
        · obtain ⟨o, ho⟩ : ∃ o, o = os.getD k zop := ⟨_, rfl⟩
          have hrg : wr.rangeAt b (off + k * 12) (opL o) := by rw [ho]; exact rangeAt_below (HC.out k hlt) hnx (rangeAt_lt (HC.out k hlt))
          have HR := Lib.hid hrg
          clear hrg
          have hs := HT.out k hlt
          rw [← ho] at hs
          have HS := Lib.hid hs
          clear hs
          have HO := Lib.hid ho
          clear ho
          rcases szV_cases o r hr0 with hv | ⟨hv0, hv1⟩
          · have HZ := Lib.hid (fun w => szOp o r w HS.out ⟨hr0, by omega⟩)
            rw [hv] at HZ
            clear hv
            go_wp2_with (refine loadL rfl _ rfl rfl HR.out ?_)
            refine (HZ.out _).mono ?_
            rintro e w1 ⟨rfl, hb1⟩
            go_wp2
            go_ret
            exact ⟨.inl rfl, hnx.trans (hb1.mono hnx.size)⟩
          · have HZ := Lib.hid (fun w => szOp o r w HS.out ⟨hr0, by omega⟩)
            generalize szV o r = r' at HZ hv0 hv1
            go_wp2_with (refine loadL rfl _ rfl rfl HR.out ?_)
            refine (HZ.out _).mono ?_
            rintro e w1 ⟨rfl, hb1⟩
            go_wp2
            go_roundw
            case rel => exact ⟨k + 1, r', by omega, by go_num, hv0, by omega, rfl, hnx.trans (hb1.mono hnx.size)⟩
            case measure => simp [intOf]; omega
        · obtain rfl : k = os.length := by omega
          go_wp2
          go_ret
          exact ⟨.inr ⟨r, hr0, hr1, by omega, rfl⟩, hnx⟩

end Go.Proofs.Ytdbnflgckcjlcaa.LgB

/-
  What the exact laws do with slices of operations: toOpS copies one into new memory. For slices of operations that read as a list of at most 2^20.
-/
namespace Go.Proofs.Ytdbnflgckcjlcaa.LgC
open Go.RowKit Go.Proofs.Ytdbnflgckcjlcaa.Base Go.Proofs.Ytdbnflgckcjlcaa.St Go.Proofs.Ytdbnflgckcjlcaa.StB Go.Proofs.Ytdbnflgckcjlcaa.OpA Go.Proofs.Ytdbnflgckcjlcaa.OpW Go.Proofs.Ytdbnflgckcjlcaa.OpB Go.Proofs.Ytdbnflgckcjlcaa.OpT Go.Proofs.Ytdbnflgckcjlcaa.LgA Go.Proofs.Ytdbnflgckcjlcaa.LgB
set_option linter.unusedVariables false

theorem info_iop : (Try.prog.info? 63).map (fun i => (i.zero, i.size, i.bytes)) = some (some (.agg #[.int .i64 zop.i, .int .i64 zop.j, .int .i64 zop.k, .int .i64 zop.ts, .int .i64 zop.ta, .int .i64 zop.fs, .int .i64 zop.fa, .int .i64 zop.ns, .int .i64 zop.na, .int .i64 zop.v, .bool zop.en, .string zop.tx]), 12, 104) := by kernel_rfl

/-- The value returned is a slice over a new block with just the operations os. -/
def NewOps (w : World) (os : List OpV) (e : Ending) (w' : World) : Prop :=
  ∃ b, e = .returned (.slice (some ⟨b, 0, none⟩) os.length os.length) ∧ w.heap.size ≤ b ∧ OwnO w' b os.length os.length (fun i => os.getD i zop) ∧ Below w.heap.size w w'

theorem made_ops (w : World) (n : Nat) : OwnO (w.alloc (.cells (madeCells #[.int .i64 0, .int .i64 0, .int .i64 0, .int .i64 0, .int .i64 0, .int .i64 0, .int .i64 0, .int .i64 0, .int .i64 0, .int .i64 0, .bool false, .string ByteArray.empty] (n * 12)) 63)) w.heap.size n n (fun _ => zop) := by
  refine ⟨fun i => (opL zop).getD (i % 12) undef, ⟨_, heap_alloc_new w _, size_madeCells _ _, fun i hi => ?_⟩, Nat.le_refl _, fun k hk j hj => ?_⟩
  · have h12 : i % 12 < 12 := Nat.mod_lt _ (by omega)
    simp only [madeCells, Array.getElem?_map, Array.getElem?_range, hi, if_true, Option.map_some]
    congr 1
    show (#[Value.int .i64 0, .int .i64 0, .int .i64 0, .int .i64 0, .int .i64 0, .int .i64 0, .int .i64 0, .int .i64 0, .int .i64 0, .int .i64 0, .bool false, .string ByteArray.empty] : Array Value)[i % 12]! = _
    generalize i % 12 = r at h12
    obtain rfl | rfl | rfl | rfl | rfl | rfl | rfl | rfl | rfl | rfl | rfl | rfl : r = 0 ∨ r = 1 ∨ r = 2 ∨ r = 3 ∨ r = 4 ∨ r = 5 ∨ r = 6 ∨ r = 7 ∨ r = 8 ∨ r = 9 ∨ r = 10 ∨ r = 11 := by omega
    all_goals rfl
  · show (opL zop).getD ((k * 12 + j) % 12) undef = _
    rw [show (k * 12 + j) % 12 = j by omega]

theorem run_make_ops (n : Nat) (h : n ≤ 1048576) (w : World) :
    (Instr.makeSlice 29 (.int .i64 (n : Int)) (.int .i64 (n : Int))).run Try.prog w = .ok (.slice (some ⟨w.heap.size, 0, none⟩) n n) (w.alloc (.cells (madeCells #[.int .i64 0, .int .i64 0, .int .i64 0, .int .i64 0, .int .i64 0, .int .i64 0, .int .i64 0, .int .i64 0, .int .i64 0, .int .i64 0, .bool false, .string ByteArray.empty] (n * 12)) 63)) := by
  obtain ⟨i, hi, hz, hs, hb⟩ := info_parts info_iop
  have := run_make (P := Try.prog) w 29 63 i _ Try.underlying29 hi hz .i64 .i64 n n (by omega) (Int.le_refl _) (by rw [hb]; omega) (by omega)
  rw [hs] at this
  simpa [zop, Value.cells] using this

set_option maxRecDepth 100000 in
theorem toOpS (a : Option Addr) (c : Nat) (os : List OpV) (w : World) (hr : RdO w a os) (hl : os.length ≤ 1048576) :
    Calls Try.prog 13 #[.slice a os.length c] w (NewOps w os) := by
  have hmk := run_make_ops os.length hl
  rcases hr with rfl | ⟨b, off, rfl, hc⟩
  · simp only [List.length_nil, Int.natCast_zero] at hmk ⊢
    go_enter Try.func13, Try.ntmps13
    go_wp2
    go_rounds 1
    go_ret
    exact ⟨w.heap.size, rfl, Nat.le_refl _, (made_ops w 0).congr fun k hk => by omega, (Below.refl _ _).alloc (Nat.le_refl _) _⟩
  · have HC := Lib.hid hc
    clear hc
    go_enter Try.func13, Try.ntmps13
    go_wp2
    clear hmk
    go_loopw [4] (fun i wr => ∃ k : Nat, k ≤ os.length ∧ i = .int .i64 k ∧ OwnO wr w.heap.size os.length os.length (fun j => if j < k then os.getD j zop else zop) ∧ Below w.heap.size w wr) (fun i _ => os.length - (intOf i).toNat)
    case atStart =>
      exact ⟨0, Nat.zero_le _, rfl, (made_ops w os.length).congr fun k hk => by simp, (Below.refl _ _).alloc (Nat.le_refl _) _⟩
    case round =>
      obtain ⟨k, hk, rfl, hown, hnx⟩ := hrel
      by_cases hlt : k < os.length
      · obtain ⟨o, ho⟩ : ∃ o, o = os.getD k zop := ⟨_, rfl⟩
        have HR := Lib.hid (by rw [ho]; exact rangeAt_below (HC.out k hlt) hnx (rangeAt_lt (HC.out k hlt)) : wr.rangeAt b (off + k * 12) (opL o))
        have HO := Lib.hid ho
        clear ho
        go_wp2_with (refine loadL rfl _ rfl rfl HR.out ?_)
        refine (toOp o _).mono ?_
        rintro e w1 ⟨rfl, hb1⟩
        have hown1 := hown.below hb1
        have hth := hown1.there hlt
        have HTH := Lib.hid hth
        clear hth
        go_wp2_with (with_reducible refine storeI (v := o) (b := w.heap.size) (o := k * 12) rfl _ _ rfl rfl rfl HTH.out ?_)
        go_roundw
        case rel =>
          refine ⟨k + 1, by omega, by go_num, (hown1.put hlt o).congr fun i hi => ?_, below_setCells (Nat.le_refl _) _ _ _ (hnx.trans (hb1.mono hnx.size))⟩
          by_cases e : i = k
          · subst e; simp [HO.out]
          · by_cases e2 : i < k
            · simp [e, e2, Nat.lt_succ_of_lt e2]
            · have : ¬ i < k + 1 := by omega
              simp [e, e2, this]
        case measure => simp [intOf]; omega
      · obtain rfl : k = os.length := by omega
        go_wp2
        go_ret
        exact ⟨w.heap.size, rfl, Nat.le_refl _, hown.congr fun i hi => by simp [hi], hnx⟩

end Go.Proofs.Ytdbnflgckcjlcaa.LgC

/-
  eqOp and eqOpS of the exact laws at equal operations, and at two slices that read as one list: they answer true. For every operation; slices of at most 2^20.
-/
namespace Go.Proofs.Ytdbnflgckcjlcaa.LgD
open Go.RowKit Go.Proofs.Ytdbnflgckcjlcaa.Base Go.Proofs.Ytdbnflgckcjlcaa.St Go.Proofs.Ytdbnflgckcjlcaa.StB Go.Proofs.Ytdbnflgckcjlcaa.OpA Go.Proofs.Ytdbnflgckcjlcaa.OpW Go.Proofs.Ytdbnflgckcjlcaa.OpB Go.Proofs.Ytdbnflgckcjlcaa.OpT Go.Proofs.Ytdbnflgckcjlcaa.LgA Go.Proofs.Ytdbnflgckcjlcaa.LgB Go.Proofs.Ytdbnflgckcjlcaa.LgC
set_option linter.unusedVariables false

theorem eqStamp_refl (s a : Int) (w : World) :
    Calls Try.prog 75 #[.agg #[.int .i64 s, .int .i64 a], .agg #[.int .i64 s, .int .i64 a]] w fun e w' => e = .returned (.bool true) ∧ Below w.heap.size w w' := by
  go_enter Try.func75, Try.ntmps75
  go_wp2
  go_ret
  exact ⟨rfl, ((Below.refl _ _).alloc (Nat.le_refl _) _).alloc (by simp) _⟩

set_option maxRecDepth 100000 in
set_option maxHeartbeats 1000000 in
theorem eqOp_refl (o : OpV) (w : World) :
    Calls Try.prog 43 #[.agg #[.int .i64 o.i, .int .i64 o.j, .int .i64 o.k, .int .i64 o.ts, .int .i64 o.ta, .int .i64 o.fs, .int .i64 o.fa, .int .i64 o.ns, .int .i64 o.na, .int .i64 o.v, .bool o.en, .string o.tx], .agg #[.int .i64 o.i, .int .i64 o.j, .int .i64 o.k, .int .i64 o.ts, .int .i64 o.ta, .int .i64 o.fs, .int .i64 o.fa, .int .i64 o.ns, .int .i64 o.na, .int .i64 o.v, .bool o.en, .string o.tx]] w fun e w' => e = .returned (.bool true) ∧ Below w.heap.size w w' := by
  have B0 : Below w.heap.size w ((w.alloc (.cells #[.int .i64 o.i, .int .i64 o.j, .int .i64 o.k, .int .i64 o.ts, .int .i64 o.ta, .int .i64 o.fs, .int .i64 o.fa, .int .i64 o.ns, .int .i64 o.na, .int .i64 o.v, .bool o.en, .string o.tx] 63)).alloc (.cells #[.int .i64 o.i, .int .i64 o.j, .int .i64 o.k, .int .i64 o.ts, .int .i64 o.ta, .int .i64 o.fs, .int .i64 o.fa, .int .i64 o.ns, .int .i64 o.na, .int .i64 o.v, .bool o.en, .string o.tx] 63)) := ((Below.refl _ _).alloc (Nat.le_refl _) _).alloc (by simp) _
  have hz0 : w.heap.size + 1 < ((w.alloc (.cells #[.int .i64 o.i, .int .i64 o.j, .int .i64 o.k, .int .i64 o.ts, .int .i64 o.ta, .int .i64 o.fs, .int .i64 o.fa, .int .i64 o.ns, .int .i64 o.na, .int .i64 o.v, .bool o.en, .string o.tx] 63)).alloc (.cells #[.int .i64 o.i, .int .i64 o.j, .int .i64 o.k, .int .i64 o.ts, .int .i64 o.ta, .int .i64 o.fs, .int .i64 o.fa, .int .i64 o.ns, .int .i64 o.na, .int .i64 o.v, .bool o.en, .string o.tx] 63)).heap.size := by simp
  go_enter Try.func43, Try.ntmps43
  go_wp2_with fail
  refine (eqStamp_refl _ _ _).mono ?_
  rintro e w1 ⟨rfl, hb1⟩
  obtain ⟨B1, hz1, hc1, hd1⟩ := nextW2 B0 hz0 hb1
  go_wp2_with fail
  refine (eqStamp_refl _ _ _).mono ?_
  rintro e w2 ⟨rfl, hb2⟩
  obtain ⟨B2, hz2, hc2, hd2⟩ := nextW2 B1 hz1 hb2
  go_wp2_with fail
  refine (eqStamp_refl _ _ _).mono ?_
  rintro e w3 ⟨rfl, hb3⟩
  obtain ⟨B3, hz3, hc3, hd3⟩ := nextW2 B2 hz2 hb3
  go_wp2_with fail
  refine (eqStamp_refl _ _ _).mono ?_
  rintro e w4 ⟨rfl, hb4⟩
  obtain ⟨B4, hz4, hc4, hd4⟩ := nextW2 B3 hz3 hb4
  go_wp2
  go_ret
  exact ⟨rfl, B4⟩

end Go.Proofs.Ytdbnflgckcjlcaa.LgD

/-
  eqOpS of the exact laws at two slices that read as one list: it answers true. For slices of at most 2^20.
-/
namespace Go.Proofs.Ytdbnflgckcjlcaa.LgE
open Go.RowKit Go.Proofs.Ytdbnflgckcjlcaa.Base Go.Proofs.Ytdbnflgckcjlcaa.St Go.Proofs.Ytdbnflgckcjlcaa.StB Go.Proofs.Ytdbnflgckcjlcaa.OpA Go.Proofs.Ytdbnflgckcjlcaa.OpW Go.Proofs.Ytdbnflgckcjlcaa.OpB Go.Proofs.Ytdbnflgckcjlcaa.OpT Go.Proofs.Ytdbnflgckcjlcaa.LgA Go.Proofs.Ytdbnflgckcjlcaa.LgB Go.Proofs.Ytdbnflgckcjlcaa.LgC Go.Proofs.Ytdbnflgckcjlcaa.LgD
set_option linter.unusedVariables false

set_option maxRecDepth 100000 in
theorem eqOpS (a a' : Option Addr) (c c' : Nat) (os : List OpV) (w : World) (hx : RdO w a os) (hy : RdO w a' os) (hl : os.length ≤ 1048576) :
    Calls Try.prog 15 #[.slice a os.length c, .slice a' os.length c'] w fun e w' => e = .returned (.bool true) ∧ Below w.heap.size w w' := by
  rcases hx with rfl | ⟨b, off, rfl, hc⟩
  · go_enter Try.func15, Try.ntmps15
    go_wp2
    go_rounds 1
    go_ret
    exact ⟨rfl, Below.refl _ _⟩
  · rcases hy with rfl | ⟨b', off', rfl, hc'⟩
    · go_enter Try.func15, Try.ntmps15
      go_wp2
      go_rounds 1
      go_ret
      exact ⟨rfl, Below.refl _ _⟩
    · have HC := Lib.hid hc
      have HC' := Lib.hid hc'
      clear hc hc'
      go_enter Try.func15, Try.ntmps15
      go_wp2
      go_loopw [5] (fun i wr => ∃ k : Nat, k ≤ os.length ∧ i = .int .i64 k ∧ Below w.heap.size w wr) (fun i _ => os.length - (intOf i).toNat)
      case atStart => exact ⟨0, Nat.zero_le _, rfl, Below.refl _ _⟩
      case round =>
        obtain ⟨k, hk, rfl, hnx⟩ := hrel
        by_cases hlt : k < os.length
        · obtain ⟨o, ho⟩ : ∃ o, o = os.getD k zop := ⟨_, rfl⟩
          have HR := Lib.hid (by rw [ho]; exact rangeAt_below (HC.out k hlt) hnx (rangeAt_lt (HC.out k hlt)) : wr.rangeAt b (off + k * 12) (opL o))
          have HR' := Lib.hid (by rw [ho]; exact rangeAt_below (HC'.out k hlt) hnx (rangeAt_lt (HC'.out k hlt)) : wr.rangeAt b' (off' + k * 12) (opL o))
          have HO := Lib.hid ho
          clear ho
          have hk0 : (0 : Int) ≤ (k : Int) := Int.natCast_nonneg _
          have hk1 : (k : Int) < (os.length : Int) := by omega
          go_wp2
          go_region_held3 (fun w' => C12 w' b (off + k * 12) o ∧ C12 w' b' (off' + k * 12) o ∧ Below wr.heap.size wr w')
            (first | exact ⟨c12 HR.out, c12 HR'.out, (Below.refl _ _).drew⟩ | (have hB : Below wr.heap.size wr w1 := (Below.refl _ _).drew.trans hb1; exact ⟨c12 (rangeAt_below HR.out hB (rangeAt_lt HR.out)), c12 (rangeAt_below HR'.out hB (rangeAt_lt HR'.out)), hB⟩))
            (first | (go_at_call 43; refine (eqOp_refl o _).mono ?_; rintro e w1 ⟨rfl, hb1⟩))
          go_wp2
          go_roundw
          case rel => exact ⟨k + 1, by omega, by go_num, hnx.trans ((And.right (And.right (by assumption : C12 _ b (off + k * 12) o ∧ C12 _ b' (off' + k * 12) o ∧ Below wr.heap.size wr _))).mono hnx.size)⟩
          case measure => simp [intOf]; omega
        · obtain rfl : k = os.length := by omega
          go_wp2
          go_ret
          exact ⟨rfl, hnx⟩

end Go.Proofs.Ytdbnflgckcjlcaa.LgE

/-
  validLog of the model: its contract, out of validOp's. For slices that read as a list of at most 2^20 operations.
-/
namespace Go.Proofs.Ytdbnflgckcjlcaa.LgF
open Go.RowKit Go.Proofs.Ytdbnflgckcjlcaa.Base Go.Proofs.Ytdbnflgckcjlcaa.St Go.Proofs.Ytdbnflgckcjlcaa.StB Go.Proofs.Ytdbnflgckcjlcaa.OpA Go.Proofs.Ytdbnflgckcjlcaa.OpW Go.Proofs.Ytdbnflgckcjlcaa.OpB Go.Proofs.Ytdbnflgckcjlcaa.OpT Go.Proofs.Ytdbnflgckcjlcaa.LgA Go.Proofs.Ytdbnflgckcjlcaa.LgB Go.Proofs.Ytdbnflgckcjlcaa.LgC Go.Proofs.Ytdbnflgckcjlcaa.LgD
set_option linter.unusedVariables false
attribute [local go_sem ↓] Go.wp_at_zero Go.wp_at_succ
attribute [local irreducible] Go.wpQuiet

/-- The contracts of the two validity functions of single operations (proved in OpH). -/
def SVop : Prop := ∀ (o : OpV) (w : World), o.tx.size ≤ maxLen → Calls Try.prog 60 #[.agg #[.int .i64 o.i, .int .i64 o.j, .int .i64 o.k, .int .i64 o.ts, .int .i64 o.ta, .int .i64 o.fs, .int .i64 o.fa, .int .i64 o.ns, .int .i64 o.na, .int .i64 o.v, .bool o.en, .string o.tx]] w fun e w' => e = .returned (.bool (vop o)) ∧ Below w.heap.size w w'
def IVop : Prop := ∀ (o : OpV) (w : World), o.tx.size ≤ maxLen → Calls Try.prog 70 #[.agg #[.int .i64 o.i, .int .i64 o.j, .int .i64 o.k, .int .i64 o.ts, .int .i64 o.ta, .int .i64 o.fs, .int .i64 o.fa, .int .i64 o.ns, .int .i64 o.na, .int .i64 o.v, .bool o.en, .string o.tx]] w fun e w' => e = .returned (.bool (vop o)) ∧ Below w.heap.size w w'

/-- A drawn region walked in the order of its text, in every world of a class. -/
theorem region_lit {P : Program} {C : World → Prop} {id : Nat} {Q : Exit → Act → World → Prop} {a : Act} {w : World} {l : List Oper} (hm : P.follows .mixedOrders = true) (hB : Region.lexB .any l.toArray = true)
    (hC : C w.drew) (h : wpQuiet P l.toArray C (fun a' => ∀ w', C w' → Q .normal a' w') l a) : (Code.region id l.toArray true).wp P Q a w :=
  wp_region_quiet (C := C) hm hB hC (by simpa using h)
theorem wrapI (x : Int) (h0 : 0 ≤ x) (h1 : x ≤ 1099511627776) : IntKind.i64.wrap x = x := by
  rw [IntKind.wrap_i64]
  omega
theorem specLess (s a t b : Int) (r : Bool) (h : slt s a t b = r) (w : World) : Calls Try.prog 68 #[.agg #[.int .i64 s, .int .i64 a], .agg #[.int .i64 t, .int .i64 b]] w fun e w' => e = .returned (.bool r) ∧ Below w.heap.size w w' := h ▸ spec_stampLess s a t b w

/-- Operation i sorts before operation i + 1. -/
def lessAt (os : List OpV) (i : Nat) : Bool := slt (os.getD i zop).i (os.getD i zop).j (os.getD (i + 1) zop).i (os.getD (i + 1) zop).j
def allTo (os : List OpV) (k : Nat) : Bool := (List.range k).all fun i => vop (os.getD i zop)
def ascTo (os : List OpV) (k : Nat) : Bool := (List.range k).all fun i => lessAt os i
/-- A valid log. -/
def vlog (os : List OpV) : Bool := decide (os.length ≤ 40) && (allTo os os.length && ascTo os (os.length - 1))
theorem allTo_succ (os : List OpV) (k : Nat) : allTo os (k + 1) = (allTo os k && vop (os.getD k zop)) := by simp [allTo, List.range_succ]
theorem ascTo_succ (os : List OpV) (k : Nat) : ascTo os (k + 1) = (ascTo os k && lessAt os k) := by simp [ascTo, List.range_succ]
theorem allTo_bad {os : List OpV} {k : Nat} (hk : k < os.length) (h : vop (os.getD k zop) = false) : vlog os = false := by
  have : allTo os os.length = false := by
    unfold allTo
    rw [List.all_eq_false]
    exact ⟨k, by simpa using hk, by rw [h]; exact Bool.false_ne_true⟩
  simp [vlog, this]
theorem ascTo_bad {os : List OpV} {k : Nat} (hk : k + 1 < os.length) (h : lessAt os k = false) : vlog os = false := by
  have : ascTo os (os.length - 1) = false := by
    unfold ascTo
    rw [List.all_eq_false]
    exact ⟨k, by simp; omega, by rw [h]; exact Bool.false_ne_true⟩
  simp [vlog, this]

set_option maxRecDepth 100000 in
set_option maxHeartbeats 400000 in
theorem spec_validLog (HV : SVop) (a : Option Addr) (c : Nat) (os : List OpV) (w : World) (hr : RdO w a os) (hl : os.length ≤ 1048576) (ht : ∀ k, k < os.length → (os.getD k zop).tx.size ≤ maxLen) :
    Calls Try.prog 34 #[.slice a os.length c] w fun e w' => e = .returned (.bool (vlog os)) ∧ Below w.heap.size w w' := by
  have HT := Lib.hid ht
  clear ht
  rcases hr with rfl | ⟨b, off, rfl, hc⟩
  · go_enter Try.func34, Try.ntmps34
    go_wp2
    go_rounds 1
    go_ret
    exact ⟨ret_bool (by decide), Below.refl _ _⟩
  · have HC := Lib.hid hc
    clear hc
    go_enter Try.func34, Try.ntmps34
    go_wp2
    go_loopw [3] (fun i wr => ∃ k : Nat, k ≤ os.length ∧ i = .int .i64 k ∧ Hid (allTo os k = true ∧ ascTo os (k - 1) = true) ∧ Below w.heap.size w wr) (fun i _ => os.length - (intOf i).toNat)
    case atStart => exact ⟨0, Nat.zero_le _, rfl, ⟨rfl, rfl⟩, Below.refl _ _⟩
    case round =>
      obtain ⟨k, hk, rfl, hok, hnx⟩ := hrel
      by_cases hlt : k < os.length
      · obtain ⟨o, ho⟩ : ∃ o, o = os.getD k zop := ⟨_, rfl⟩
        have HR := Lib.hid (by rw [ho]; exact rangeAt_below (HC.out k hlt) hnx (rangeAt_lt (HC.out k hlt)) : wr.rangeAt b (off + k * 12) (opL o))
        have HO := Lib.hid ho
        clear ho
        have hs : o.tx.size ≤ maxLen := by rw [HO.out]; exact HT.out k hlt
        have HS := Lib.hid hs
        clear hs
        have hk0 : (0 : Int) ≤ (k : Int) := Int.natCast_nonneg _
        have hk1 : (k : Int) < (os.length : Int) := by omega
        have hB0 : Below wr.heap.size wr wr.drew := (Below.refl _ _).drew
        obtain ⟨v, hv⟩ : ∃ v, vop o = v := ⟨_, rfl⟩
        have HV1 := Lib.hid (fun w => HV o w HS.out)
        rw [hv] at HV1
        have HVO := Lib.hid hv
        clear hv
        cases v
        · go_wp2
          refine region_lit (C := fun W => Below wr.heap.size wr W) (by kernel_rfl) (by kernel_rfl) hB0 ?_
          repeat (
            first
              | (with_reducible refine quietI rfl _ rfl rfl (fun W hW => rangeAt_below HR.out hW (rangeAt_lt HR.out)) ?_)
              | (refine wpQuiet_step (fun K hK => ?_)
                 go_simp
                 first
                   | (refine hK _ ?_; clear hK K)
                   | (apply Exists.intro
                      refine ⟨fun W hW => ?_, hK _ ?_⟩
                      · first
                          | (go_simp; exact rfl)
                          | (go_simp; exact ⟨rfl, rfl⟩)
                          | with_reducible exact (HV1.out _).mono (fun e wn ⟨he, hbn⟩ => ⟨he, hW.trans (hbn.mono hW.size)⟩)
                          | with_reducible exact ⟨rfl, (HV1.out _).mono (fun e wn ⟨he, hbn⟩ => ⟨he, hW.trans (hbn.mono hW.size)⟩)⟩
                      clear hK K)))
          refine wpQuiet_nil ?_
          intro W hW
          go_wp2
          go_ret
          refine ⟨ret_bool ?_, hnx.trans (hW.mono hnx.size)⟩
          have h := HVO.out
          rw [HO.out] at h
          rw [allTo_bad hlt h]
        · by_cases hk' : k = 0
          · subst hk'
            go_wp2
            refine region_lit (C := fun W => Below wr.heap.size wr W) (by kernel_rfl) (by kernel_rfl) hB0 ?_
            repeat (
              first
                | (with_reducible refine quietI rfl _ rfl rfl (fun W hW => rangeAt_below HR.out hW (rangeAt_lt HR.out)) ?_)
                | (refine wpQuiet_step (fun K hK => ?_)
                   go_simp
                   first
                     | (refine hK _ ?_; clear hK K)
                     | (apply Exists.intro
                        refine ⟨fun W hW => ?_, hK _ ?_⟩
                        · first
                            | (go_simp; exact rfl)
                            | (go_simp; exact ⟨rfl, rfl⟩)
                            | with_reducible exact (HV1.out _).mono (fun e wn ⟨he, hbn⟩ => ⟨he, hW.trans (hbn.mono hW.size)⟩)
                            | with_reducible exact ⟨rfl, (HV1.out _).mono (fun e wn ⟨he, hbn⟩ => ⟨he, hW.trans (hbn.mono hW.size)⟩)⟩
                        clear hK K)))
            refine wpQuiet_nil ?_
            intro W hW
            go_wp2
            go_roundw
            case rel => exact ⟨1, by omega, by go_num, ⟨by rw [allTo_succ, hok.out.1, ← HO.out, HVO.out]; rfl, rfl⟩, hnx.trans (hW.mono hnx.size)⟩
            case measure => simp [intOf]; omega
          · obtain ⟨m, hm⟩ : ∃ m, k = m + 1 := ⟨k - 1, by omega⟩
            have hpos : (0 : Int) < (k : Int) := by omega
            have hposn : 0 < k := by omega
            have hw1 : IntKind.i64.wrap ((k : Int) - 1) = (m : Int) := by
              rw [wrapI _ (by omega) (by omega)]
              omega
            have hm0 : (0 : Int) ≤ (m : Int) := Int.natCast_nonneg _
            have hm1 : (m : Int) < (os.length : Int) := by omega
            have hml : m < os.length := by omega
            obtain ⟨q, hq⟩ : ∃ q, q = os.getD m zop := ⟨_, rfl⟩
            have HP := Lib.hid (by rw [hq]; exact rangeAt_below (HC.out m hml) hnx (rangeAt_lt (HC.out m hml)) : wr.rangeAt b (off + m * 12) (opL q))
            have hla : slt q.i q.j o.i o.j = lessAt os m := by rw [hq, HO.out, hm]; rfl
            obtain ⟨r, hr⟩ : ∃ r, lessAt os m = r := ⟨_, rfl⟩
            rw [hr] at hla
            have HL1 := Lib.hid (specLess q.i q.j o.i o.j r hla)
            have HLA := Lib.hid hr
            have HM := Lib.hid hm
            clear hla hr hq hm hk'
            cases r
            · go_wp2
              refine region_lit (C := fun W => Below wr.heap.size wr W) (by kernel_rfl) (by kernel_rfl) hB0 ?_
              repeat (
                first
                  | (with_reducible refine quietI rfl _ rfl rfl (fun W hW => rangeAt_below HR.out hW (rangeAt_lt HR.out)) ?_)
                  | (refine wpQuiet_step (fun K hK => ?_)
                     go_simp
                     first
                       | (refine hK _ ?_; clear hK K)
                       | (apply Exists.intro
                          refine ⟨fun W hW => ?_, hK _ ?_⟩
                          · obtain ⟨q0, q1, q2, q3, q4, q5, q6, q7, q8, q9, q10, q11⟩ := c12 (rangeAt_below HR.out hW (rangeAt_lt HR.out))
                            obtain ⟨p0, p1, p2, p3, p4, p5, p6, p7, p8, p9, p10, p11⟩ := c12 (rangeAt_below HP.out hW (rangeAt_lt HP.out))
                            first
                              | (go_simp; exact rfl)
                              | (go_simp; exact ⟨rfl, rfl⟩)
                              | with_reducible exact (HV1.out _).mono (fun e wn ⟨he, hbn⟩ => ⟨he, hW.trans (hbn.mono hW.size)⟩)
                              | with_reducible exact ⟨rfl, (HV1.out _).mono (fun e wn ⟨he, hbn⟩ => ⟨he, hW.trans (hbn.mono hW.size)⟩)⟩
                              | with_reducible exact (HL1.out _).mono (fun e wn ⟨he, hbn⟩ => ⟨he, hW.trans (hbn.mono hW.size)⟩)
                              | with_reducible exact ⟨rfl, (HL1.out _).mono (fun e wn ⟨he, hbn⟩ => ⟨he, hW.trans (hbn.mono hW.size)⟩)⟩
                          clear hK K)))
              refine wpQuiet_nil ?_
              intro W hW
              go_wp2
              go_ret
              exact ⟨ret_bool (ascTo_bad (by have := HM.out; omega) HLA.out).symm, hnx.trans (hW.mono hnx.size)⟩
            · go_wp2
              refine region_lit (C := fun W => Below wr.heap.size wr W) (by kernel_rfl) (by kernel_rfl) hB0 ?_
              repeat (
                first
                  | (with_reducible refine quietI rfl _ rfl rfl (fun W hW => rangeAt_below HR.out hW (rangeAt_lt HR.out)) ?_)
                  | (refine wpQuiet_step (fun K hK => ?_)
                     go_simp
                     first
                       | (refine hK _ ?_; clear hK K)
                       | (apply Exists.intro
                          refine ⟨fun W hW => ?_, hK _ ?_⟩
                          · obtain ⟨q0, q1, q2, q3, q4, q5, q6, q7, q8, q9, q10, q11⟩ := c12 (rangeAt_below HR.out hW (rangeAt_lt HR.out))
                            obtain ⟨p0, p1, p2, p3, p4, p5, p6, p7, p8, p9, p10, p11⟩ := c12 (rangeAt_below HP.out hW (rangeAt_lt HP.out))
                            first
                              | (go_simp; exact rfl)
                              | (go_simp; exact ⟨rfl, rfl⟩)
                              | with_reducible exact (HV1.out _).mono (fun e wn ⟨he, hbn⟩ => ⟨he, hW.trans (hbn.mono hW.size)⟩)
                              | with_reducible exact ⟨rfl, (HV1.out _).mono (fun e wn ⟨he, hbn⟩ => ⟨he, hW.trans (hbn.mono hW.size)⟩)⟩
                              | with_reducible exact (HL1.out _).mono (fun e wn ⟨he, hbn⟩ => ⟨he, hW.trans (hbn.mono hW.size)⟩)
                              | with_reducible exact ⟨rfl, (HL1.out _).mono (fun e wn ⟨he, hbn⟩ => ⟨he, hW.trans (hbn.mono hW.size)⟩)⟩
                          clear hK K)))
              refine wpQuiet_nil ?_
              intro W hW
              go_wp2
              go_roundw
              case rel =>
                refine ⟨k + 1, by omega, by go_num, ?_, hnx.trans (hW.mono hnx.size)⟩
                obtain ⟨h1, h2⟩ := hok.out
                have hm := HM.out
                exact ⟨by rw [allTo_succ, h1, ← HO.out, HVO.out]; rfl, by rw [show k + 1 - 1 = m + 1 by omega, ascTo_succ, show m = k - 1 by omega, h2, show k - 1 = m by omega, HLA.out]; rfl⟩
              case measure => simp [intOf]; omega
      · obtain rfl : k = os.length := by omega
        go_wp2
        go_ret
        refine ⟨ret_bool ?_, hnx⟩
        obtain ⟨h1, h2⟩ := hok.out
        rw [vlog, h1, h2]
        simp
        omega

end Go.Proofs.Ytdbnflgckcjlcaa.LgF

/-
  ValidLog of the program: contracts of compareOps, opSet, ascending and ValidLog, out of ValidOp's. For slices that read as a list of at most 2^20 operations.
-/
namespace Go.Proofs.Ytdbnflgckcjlcaa.LgG
open Go.RowKit Go.Proofs.Ytdbnflgckcjlcaa.Base Go.Proofs.Ytdbnflgckcjlcaa.St Go.Proofs.Ytdbnflgckcjlcaa.StB Go.Proofs.Ytdbnflgckcjlcaa.OpA Go.Proofs.Ytdbnflgckcjlcaa.OpW Go.Proofs.Ytdbnflgckcjlcaa.OpB Go.Proofs.Ytdbnflgckcjlcaa.OpT Go.Proofs.Ytdbnflgckcjlcaa.LgA Go.Proofs.Ytdbnflgckcjlcaa.LgB Go.Proofs.Ytdbnflgckcjlcaa.LgC Go.Proofs.Ytdbnflgckcjlcaa.LgD Go.Proofs.Ytdbnflgckcjlcaa.LgF
set_option linter.unusedVariables false
attribute [local go_sem ↓] Go.wp_at_zero Go.wp_at_succ
attribute [local irreducible] Go.wpQuiet

set_option maxRecDepth 100000 in
theorem compareOps (o p : OpV) (w : World) :
    Calls Try.prog 74 #[.agg #[.int .i64 o.i, .int .i64 o.j, .int .i64 o.k, .int .i64 o.ts, .int .i64 o.ta, .int .i64 o.fs, .int .i64 o.fa, .int .i64 o.ns, .int .i64 o.na, .int .i64 o.v, .bool o.en, .string o.tx], .agg #[.int .i64 p.i, .int .i64 p.j, .int .i64 p.k, .int .i64 p.ts, .int .i64 p.ta, .int .i64 p.fs, .int .i64 p.fa, .int .i64 p.ns, .int .i64 p.na, .int .i64 p.v, .bool p.en, .string p.tx]] w fun e w' => e = .returned (.int .i64 (scmp o.i o.j p.i p.j)) ∧ Below w.heap.size w w' := by
  go_enter Try.func74, Try.ntmps74
  go_wp2_with fail
  refine (stampCompare _ _ _ _ _).mono ?_
  rintro e w1 ⟨rfl, hb1⟩
  go_wp2
  go_ret
  exact ⟨rfl, (((Below.refl _ _).alloc (Nat.le_refl _) _).alloc (by simp) _).trans (hb1.mono (by simp; omega))⟩

theorem opSet (a : Option Addr) (n c : Nat) (w : World) :
    Calls Try.prog 41 #[.slice a n c] w fun e w' => e = .returned (.agg #[.slice a n c, .func (.func 74) #[] #[]]) ∧ Below w.heap.size w w' := by
  go_enter Try.func41, Try.ntmps41
  go_wp2
  refine bodyPost_ret (v := .agg #[.slice a n c, .func (.func 74) #[] #[]]) (by simp [results, Try.results41, go_sem]) rfl ⟨rfl, ?_⟩
  go_grown

theorem scmp_cases (s a t b : Int) : (scmp s a t b < 0 ∧ slt s a t b = true) ∨ (¬ scmp s a t b < 0 ∧ slt s a t b = false) := by
  rw [← scmp_neg]
  by_cases h : scmp s a t b < 0
  · exact .inl ⟨h, by simp [h]⟩
  · exact .inr ⟨h, by simp [h]⟩

set_option maxRecDepth 100000 in
set_option maxHeartbeats 1000000 in
theorem ascending (a : Option Addr) (c : Nat) (os : List OpV) (w : World) (hr : RdO w a os) (hl : os.length ≤ 1048576) :
    Calls Try.prog 71 #[.agg #[.slice a os.length c, .func (.func 74) #[] #[]]] w fun e w' => e = .returned (.bool (ascTo os (os.length - 1))) ∧ Below w.heap.size w w' := by
  rcases hr with rfl | ⟨b, off, rfl, hc⟩
  · go_enter Try.func71, Try.ntmps71
    go_wp2
    go_rounds 1
    go_ret
    exact ⟨rfl, (Below.refl _ _).alloc (Nat.le_refl _) _⟩
  · have HC := Lib.hid hc
    clear hc
    go_enter Try.func71, Try.ntmps71
    go_wp2
    go_outline
    go_loopw [3] (fun i wr => ∃ k : Nat, 1 ≤ k ∧ i = .int .i64 k ∧ Hid (ascTo os (k - 1) = true) ∧ (k ≤ os.length ∨ os.length = 0) ∧
        Below w.heap.size w wr ∧ w.heap.size < wr.heap.size ∧ wr.cell? ⟨w.heap.size, 0, none⟩ = some (.slice (some ⟨b, off, none⟩) os.length c) ∧ wr.cell? ⟨w.heap.size, 1, none⟩ = some (.func (.func 74) #[] #[])) (fun i _ => os.length - (intOf i).toNat)
    case atStart => exact ⟨1, Nat.le_refl _, rfl, rfl, by omega, (Below.refl _ _).alloc (Nat.le_refl _) _, by simp, by simp [go_sem], by simp [go_sem]⟩
    case round =>
      obtain ⟨k, hk1, rfl, hok, hkl, hnx, hzb, hc0, hc1⟩ := hrel
      by_cases hlt : k < os.length
      · obtain ⟨o, ho⟩ : ∃ o, o = os.getD k zop := ⟨_, rfl⟩
        have HR := Lib.hid (by rw [ho]; exact rangeAt_below (HC.out k hlt) hnx (rangeAt_lt (HC.out k hlt)) : wr.rangeAt b (off + k * 12) (opL o))
        have HO := Lib.hid ho
        clear ho
        obtain ⟨m, hm⟩ : ∃ m, k = m + 1 := ⟨k - 1, by omega⟩
        have hw1 : IntKind.i64.wrap ((k : Int) - 1) = (m : Int) := by
          rw [wrapI _ (by omega) (by omega)]
          omega
        have hm0 : (0 : Int) ≤ (m : Int) := Int.natCast_nonneg _
        have hm1 : (m : Int) < (os.length : Int) := by omega
        have hml : m < os.length := by omega
        have hk0 : (0 : Int) ≤ (k : Int) := Int.natCast_nonneg _
        have hk2 : (k : Int) < (os.length : Int) := by omega
        obtain ⟨q, hq⟩ : ∃ q, q = os.getD m zop := ⟨_, rfl⟩
        have HP := Lib.hid (by rw [hq]; exact rangeAt_below (HC.out m hml) hnx (rangeAt_lt (HC.out m hml)) : wr.rangeAt b (off + m * 12) (opL q))
        have hla : slt q.i q.j o.i o.j = lessAt os m := by rw [hq, HO.out, hm]; rfl
        have HM := Lib.hid hm
        have HB0 := Lib.hid hc0
        have HB1 := Lib.hid hc1
        have hB0 : Below wr.heap.size wr wr.drew := (Below.refl _ _).drew
        have hcs := scmp_cases q.i q.j o.i o.j
        rw [hla] at hcs
        have HCM := Lib.hid (fun w => compareOps q o w)
        generalize scmp q.i q.j o.i o.j = x at hcs HCM
        clear hla hq hm hkl
        rcases hcs with ⟨hx, hla⟩ | ⟨hx, hla⟩
        all_goals
          have HLA := Lib.hid hla
          clear hla
          go_wp2
          refine region_lit (C := fun W => Below wr.heap.size wr W) (by kernel_rfl) (by kernel_rfl) hB0 ?_
          clear hc0 hc1
          repeat (
            first
              | (with_reducible refine quietI rfl _ rfl rfl (fun W hW => rangeAt_below HP.out hW (rangeAt_lt HP.out)) ?_)
              | (with_reducible refine quietI rfl _ rfl rfl (fun W hW => rangeAt_below HR.out hW (rangeAt_lt HR.out)) ?_)
              | (refine wpQuiet_step (fun K hK => ?_)
                 go_simp
                 first
                   | (refine hK _ ?_; clear hK K)
                   | (apply Exists.intro
                      refine ⟨fun W hW => ?_, hK _ ?_⟩
                      · have p0 := (hW.cell (p := ⟨w.heap.size, 0, none⟩) hzb).trans HB0.out
                        have p1 := (hW.cell (p := ⟨w.heap.size, 1, none⟩) hzb).trans HB1.out
                        first
                          | (go_simp; exact rfl)
                          | (go_simp; exact ⟨rfl, rfl⟩)
                          | with_reducible exact (HCM.out _).mono (fun e wn ⟨he, hbn⟩ => ⟨he, hW.trans (hbn.mono hW.size)⟩)
                          | with_reducible exact ⟨rfl, (HCM.out _).mono (fun e wn ⟨he, hbn⟩ => ⟨he, hW.trans (hbn.mono hW.size)⟩)⟩
                      clear hK K)))
          refine wpQuiet_nil ?_
          intro W hW
          have hd0 := (hW.cell (p := ⟨w.heap.size, 0, none⟩) hzb).trans HB0.out
          have hd1 := (hW.cell (p := ⟨w.heap.size, 1, none⟩) hzb).trans HB1.out
          have hzW := hW.size
        · have hx' : ¬ (0 : Int) ≤ x := by omega
          go_wp2
          go_roundw
          case rel => exact ⟨k + 1, by omega, by go_num, by have h := hok.out; have hm := HM.out; rw [show k + 1 - 1 = m + 1 by omega, ascTo_succ, show m = k - 1 by omega, h, show k - 1 = m by omega, HLA.out]; rfl, by omega, hnx.trans (hW.mono hnx.size), by omega, hd0, hd1⟩
          case measure => simp [intOf]; omega
        · have hx' : (0 : Int) ≤ x := by omega
          go_wp2
          go_ret
          refine ⟨ret_bool ?_, hnx.trans (hW.mono hnx.size)⟩
          have : ascTo os (os.length - 1) = false := by
            unfold ascTo
            rw [List.all_eq_false]
            exact ⟨m, by have := HM.out; simp; omega, by rw [HLA.out]; exact Bool.false_ne_true⟩
          exact this.symm
      · go_wp2
        go_ret
        refine ⟨ret_bool ?_, hnx⟩
        have h := hok.out
        rcases hkl with h1 | h1
        · rw [show os.length - 1 = k - 1 by omega, h]
        · rw [h1]; rfl

end Go.Proofs.Ytdbnflgckcjlcaa.LgG

/-
  ValidLog of the program: its contract, out of ValidOp's. For slices that read as a list of at most 2^20 operations.
-/
namespace Go.Proofs.Ytdbnflgckcjlcaa.LgH
open Go.RowKit Go.Proofs.Ytdbnflgckcjlcaa.Base Go.Proofs.Ytdbnflgckcjlcaa.St Go.Proofs.Ytdbnflgckcjlcaa.StB Go.Proofs.Ytdbnflgckcjlcaa.OpA Go.Proofs.Ytdbnflgckcjlcaa.OpW Go.Proofs.Ytdbnflgckcjlcaa.OpB Go.Proofs.Ytdbnflgckcjlcaa.OpT Go.Proofs.Ytdbnflgckcjlcaa.LgA Go.Proofs.Ytdbnflgckcjlcaa.LgB Go.Proofs.Ytdbnflgckcjlcaa.LgC Go.Proofs.Ytdbnflgckcjlcaa.LgD Go.Proofs.Ytdbnflgckcjlcaa.LgF Go.Proofs.Ytdbnflgckcjlcaa.LgG
set_option linter.unusedVariables false

theorem ascTo_bad' {os : List OpV} (h : ascTo os (os.length - 1) = false) : vlog os = false := by simp [vlog, h]

set_option maxRecDepth 100000 in
set_option maxHeartbeats 1000000 in
theorem impl_ValidLog (HV : IVop) (a : Option Addr) (c : Nat) (os : List OpV) (w : World) (hr : RdO w a os) (hl : os.length ≤ 1048576) (ht : ∀ k, k < os.length → (os.getD k zop).tx.size ≤ maxLen) :
    Calls Try.prog 36 #[.slice a os.length c] w fun e w' => e = .returned (.bool (vlog os)) ∧ Below w.heap.size w w' := by
  have HT := Lib.hid ht
  clear ht
  have HRD := Lib.hid hr
  rcases hr with rfl | ⟨b, off, rfl, hc⟩
  · have HRW := Lib.hid (fun w' (hb : Below w.heap.size w w') => ascending a c [] w' (HRD.out.below hb) (by simp))
    go_enter Try.func36, Try.ntmps36
    go_wp2
    refine wp_loop_rounds 1 ?_
    rw [rounds_succ]
    go_wp2_with fail
    refine (opSet _ _ _ _).mono ?_
    rintro e w1 ⟨rfl, hb1⟩
    go_wp2_with fail
    refine (HRW.out _ hb1).mono ?_
    rintro e w2 ⟨rfl, hb2⟩
    go_wp2
    go_ret
    exact ⟨ret_bool (by decide), hb1.trans (hb2.mono hb1.size)⟩
  · have HC := Lib.hid hc
    clear hc
    go_enter Try.func36, Try.ntmps36
    go_wp2
    go_loopw [7] (fun i wr => ∃ k : Nat, k ≤ os.length ∧ i = .int .i64 k ∧ Hid (allTo os k = true) ∧ Below w.heap.size w wr) (fun i _ => os.length - (intOf i).toNat)
    case atStart => exact ⟨0, Nat.zero_le _, rfl, rfl, Below.refl _ _⟩
    case round =>
      obtain ⟨k, hk, rfl, hok, hnx⟩ := hrel
      by_cases hlt : k < os.length
      · obtain ⟨o, ho⟩ : ∃ o, o = os.getD k zop := ⟨_, rfl⟩
        have HR := Lib.hid (by rw [ho]; exact rangeAt_below (HC.out k hlt) hnx (rangeAt_lt (HC.out k hlt)) : wr.rangeAt b (off + k * 12) (opL o))
        have HO := Lib.hid ho
        clear ho
        have hs : o.tx.size ≤ maxLen := by rw [HO.out]; exact HT.out k hlt
        have HS := Lib.hid hs
        clear hs
        obtain ⟨v, hv⟩ : ∃ v, vop o = v := ⟨_, rfl⟩
        have HV1 := Lib.hid (fun w => HV o w HS.out)
        rw [hv] at HV1
        have HVO := Lib.hid hv
        clear hv
        cases v
        all_goals
          go_wp2_with (refine loadI rfl _ rfl rfl HR.out ?_)
          refine (HV1.out _).mono ?_
          rintro e w1 ⟨rfl, hb1⟩
          have hB1 := (((Below.refl wr.heap.size wr).alloc (Nat.le_refl _) _).trans (hb1.mono (by simp)))
          go_wp2
        · go_ret
          refine ⟨ret_bool ?_, hnx.trans (hB1.mono hnx.size)⟩
          have h := HVO.out
          rw [HO.out] at h
          rw [allTo_bad hlt h]
        · go_roundw
          case rel => exact ⟨k + 1, by omega, by go_num, by show allTo os (k + 1) = true; rw [allTo_succ, hok.out, ← HO.out, HVO.out]; rfl, hnx.trans (hB1.mono hnx.size)⟩
          case measure => simp [intOf]; omega
      · obtain rfl : k = os.length := by omega
        have hA := hok.out
        have HOK := Lib.hid hA
        clear hA hok
        by_cases h40 : os.length ≤ 40
        · have h40' : (os.length : Int) ≤ 40 := by omega
          obtain ⟨v, hv⟩ : ∃ v, ascTo os (os.length - 1) = v := ⟨_, rfl⟩
          have HRW := Lib.hid (fun w' (hb : Below w.heap.size w w') => ascending (some ⟨b, off, none⟩) c os w' (HRD.out.below hb) hl)
          rw [hv] at HRW
          have HV2 := Lib.hid hv
          clear hv
          go_wp2_with fail
          refine (opSet _ _ _ _).mono ?_
          rintro e w1 ⟨rfl, hb1⟩
          have hB1 := hnx.trans (hb1.mono hnx.size)
          go_wp2_with fail
          refine (HRW.out _ hB1).mono ?_
          rintro e w2 ⟨rfl, hb2⟩
          go_wp2
          go_ret
          refine ⟨ret_bool ?_, hB1.trans (hb2.mono hB1.size)⟩
          have h2 := HV2.out
          rw [vlog, HOK.out, h2]
          simp [h40]
        · have h40' : ¬ (os.length : Int) ≤ 40 := by omega
          go_wp2
          go_ret
          refine ⟨ret_bool ?_, hnx⟩
          simp [vlog, h40]

end Go.Proofs.Ytdbnflgckcjlcaa.LgH
