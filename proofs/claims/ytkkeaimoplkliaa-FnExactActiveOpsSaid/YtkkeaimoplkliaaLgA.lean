/-
  Slices of operations: how one reads as a list of operations; a row of operations of the call's own; what stores do to it. Plain facts on worlds; no condition.
-/
import Derived.Test.YtkkeaimoplkliaaOpT
import Derived.Deep.MidRow
import Derived.Deep.OwnRows
import Derived.Laws.OwnMore
namespace Go.Proofs.Ytkkeaimoplkliaa.LgA
open Go.RowKit Go.Proofs.Ytkkeaimoplkliaa.Base Go.Proofs.Ytkkeaimoplkliaa.St Go.Proofs.Ytkkeaimoplkliaa.StB Go.Proofs.Ytkkeaimoplkliaa.OpA Go.Proofs.Ytkkeaimoplkliaa.OpB
set_option linter.unusedVariables false

/-- The twelve cells of an operation. -/
def opL (o : OpV) : List Value := [.int .i64 o.i, .int .i64 o.j, .int .i64 o.k, .int .i64 o.ts, .int .i64 o.ta, .int .i64 o.fs, .int .i64 o.fa, .int .i64 o.ns, .int .i64 o.na, .int .i64 o.v, .bool o.en, .string o.tx]
theorem opL_len (o : OpV) : (opL o).length = 12 := rfl
def zop : OpV := ⟨0, 0, 0, 0, 0, 0, 0, 0, 0, 0, false, ByteArray.empty⟩
theorem opL_inj {o p : OpV} (h : opL o = opL p) : o = p := by
  cases o; cases p
  simpa [opL] using h

/-- The slice at address a reads as the operations os. -/
def RdO (w : World) (a : Option Addr) (os : List OpV) : Prop :=
  os = [] ∨ ∃ b off, a = some ⟨b, off, none⟩ ∧ ∀ k, k < os.length → w.rangeAt b (off + k * 12) (opL (os.getD k zop))

theorem rangeAt_cell {w : World} {b o : Nat} {x : OpV} (h : w.rangeAt b o (opL x)) (j : Nat) (hj : j < 12) : w.cell? ⟨b, o + j, none⟩ = some ((opL x).getD j undef) :=
  h j _ (by rw [List.getD_eq_getElem?_getD, List.getElem?_eq_getElem (by rw [opL_len]; exact hj)]; rfl)
/-- The twelve cells of an operation, one by one. -/
abbrev C12 (w : World) (b o : Nat) (x : OpV) : Prop := w.cell? ⟨b, o, none⟩ = some (.int .i64 x.i) ∧ w.cell? ⟨b, o + 1, none⟩ = some (.int .i64 x.j) ∧ w.cell? ⟨b, o + 2, none⟩ = some (.int .i64 x.k) ∧ w.cell? ⟨b, o + 3, none⟩ = some (.int .i64 x.ts) ∧ w.cell? ⟨b, o + 4, none⟩ = some (.int .i64 x.ta) ∧ w.cell? ⟨b, o + 5, none⟩ = some (.int .i64 x.fs) ∧ w.cell? ⟨b, o + 6, none⟩ = some (.int .i64 x.fa) ∧ w.cell? ⟨b, o + 7, none⟩ = some (.int .i64 x.ns) ∧ w.cell? ⟨b, o + 8, none⟩ = some (.int .i64 x.na) ∧ w.cell? ⟨b, o + 9, none⟩ = some (.int .i64 x.v) ∧ w.cell? ⟨b, o + 10, none⟩ = some (.bool x.en) ∧ w.cell? ⟨b, o + 11, none⟩ = some (.string x.tx)
theorem c12 {w : World} {b o : Nat} {x : OpV} (h : w.rangeAt b o (opL x)) : C12 w b o x :=
  ⟨rangeAt_cell h 0 (by omega), rangeAt_cell h 1 (by omega), rangeAt_cell h 2 (by omega), rangeAt_cell h 3 (by omega), rangeAt_cell h 4 (by omega), rangeAt_cell h 5 (by omega), rangeAt_cell h 6 (by omega), rangeAt_cell h 7 (by omega), rangeAt_cell h 8 (by omega), rangeAt_cell h 9 (by omega), rangeAt_cell h 10 (by omega), rangeAt_cell h 11 (by omega)⟩
theorem rangeAt_lt {w : World} {b o : Nat} {x : OpV} (h : w.rangeAt b o (opL x)) : b < w.heap.size := World.block_lt_of_cell? w _ (rangeAt_cell h 0 (by omega))
theorem rangeAt_block {w w' : World} {b o : Nat} {cs : List Value} (h : w.rangeAt b o cs) (e : w'.heap[b]? = w.heap[b]?) : w'.rangeAt b o cs :=
  fun j v hv => (World.cell?_of_block (w := w) e).trans (h j v hv)
theorem rangeAt_below {B : Nat} {w w' : World} {b o : Nat} {cs : List Value} (h : w.rangeAt b o cs) (hb : Below B w w') (hl : b < B) : w'.rangeAt b o cs := rangeAt_block h (hb.block b hl)

theorem RdO.below {w w' : World} {a : Option Addr} {os : List OpV} (h : RdO w a os) (hb : Below w.heap.size w w') : RdO w' a os := by
  rcases h with h | ⟨b, off, ha, hc⟩
  · exact .inl h
  · exact .inr ⟨b, off, ha, fun k hk => rangeAt_below (hc k hk) hb (rangeAt_lt (hc k hk))⟩
def blkA (a : Option Addr) : Option Nat := a.map (·.block)
theorem RdO.grown {w w' : World} {a : Option Addr} {os : List OpV} {r : Option Nat} (h : RdO w a os) (hb : w.grownBy w' r) (hne : ∀ b, blkA a = some b → r ≠ some b) : RdO w' a os := by
  rcases h with h | ⟨b, off, rfl, hc⟩
  · exact .inl h
  · exact .inr ⟨b, off, rfl, fun k hk => rangeAt_block (hc k hk) (hb.block b (rangeAt_lt (hc k hk)) (fun e => hne b rfl e.symm))⟩

/-- Block b is a row of c operations of the call's own; the first n are f 0, f 1, .. -/
def OwnO (w : World) (b c n : Nat) (f : Nat → OpV) : Prop :=
  ∃ g : Nat → Value, w.rowIs b 30 (c * 12) g ∧ n ≤ c ∧ ∀ k, k < n → ∀ j, j < 12 → g (k * 12 + j) = (opL (f k)).getD j undef
theorem OwnO.lt {w : World} {b c n : Nat} {f : Nat → OpV} (h : OwnO w b c n f) : b < w.heap.size := by obtain ⟨g, h, _⟩ := h; exact h.lt
theorem OwnO.le {w : World} {b c n : Nat} {f : Nat → OpV} (h : OwnO w b c n f) : n ≤ c := by obtain ⟨g, _, h, _⟩ := h; exact h
theorem OwnO.range {w : World} {b c n : Nat} {f : Nat → OpV} (h : OwnO w b c n f) {k : Nat} (hk : k < n) : w.rangeAt b (k * 12) (opL (f k)) := by
  obtain ⟨g, h, hn, hg⟩ := h
  intro j v hv
  have hj : j < 12 := by
    have := (List.getElem?_eq_some_iff.1 hv).1
    rwa [opL_len] at this
  rw [h.cell (i := k * 12 + j) (by omega), hg k hk j hj, List.getD_eq_getElem?_getD, hv]
  rfl
theorem OwnO.frozen {w : World} {b c n : Nat} {f : Nat → OpV} (h : OwnO w b c n f) (i : Nat) : w.frozen? ⟨b, i, none⟩ = false := by
  obtain ⟨g, h, _⟩ := h
  exact h.frozen i
theorem OwnO.there {w : World} {b c n : Nat} {f : Nat → OpV} (h : OwnO w b c n f) {k : Nat} (hk : k < c) : w.there b (k * 12) 12 := by
  obtain ⟨g, h, hn, hg⟩ := h
  intro j hj
  exact ⟨by rw [h.cell (i := k * 12 + j) (by omega)]; rfl, h.frozen _⟩
theorem OwnO.of_block {w w' : World} {b c n : Nat} {f : Nat → OpV} (h : OwnO w b c n f) (e : w'.heap[b]? = w.heap[b]?) : OwnO w' b c n f := by
  obtain ⟨g, h, hn, hg⟩ := h
  exact ⟨g, h.of_block e, hn, hg⟩
theorem OwnO.below {w w' : World} {b c n : Nat} {f : Nat → OpV} (h : OwnO w b c n f) (hb : Below w.heap.size w w') : OwnO w' b c n f := h.of_block (hb.block b h.lt)
theorem OwnO.grown {w w' : World} {b c n : Nat} {f : Nat → OpV} {r : Option Nat} (h : OwnO w b c n f) (hb : w.grownBy w' r) (hne : r ≠ some b) : OwnO w' b c n f :=
  h.of_block (hb.block b h.lt (fun e => hne e.symm))
theorem OwnO.congr {w : World} {b c n : Nat} {f f' : Nat → OpV} (h : OwnO w b c n f) (e : ∀ k, k < n → f k = f' k) : OwnO w b c n f' := by
  obtain ⟨g, h, hn, hg⟩ := h
  exact ⟨g, h, hn, fun k hk j hj => by rw [hg k hk j hj, e k hk]⟩
theorem rowIs_setCells {b : Nat} {t : TypeId} {n : Nat} : ∀ (vs : List Value) (o : Nat) (w : World) (f : Nat → Value), w.rowIs b t n f → (w.setCells b o vs).rowIs b t n (fun i => if o ≤ i ∧ i < o + vs.length then vs.getD (i - o) undef else f i)
  | [], o, w, f, h => h.congr fun i _ => by
      have : ¬ (o ≤ i ∧ i < o + ([] : List Value).length) := by simp
      rw [if_neg this]
  | v :: r, o, w, f, h => by
      refine (rowIs_setCells r (o + 1) _ _ (h.set o v)).congr fun i _ => ?_
      by_cases e : i = o
      · subst e
        rw [if_neg (by omega), if_pos rfl, if_pos (by simp)]
        simp
      · rw [if_neg e]
        by_cases h1 : o + 1 ≤ i ∧ i < o + 1 + r.length
        · rw [if_pos h1, if_pos (by simp; omega)]
          rw [show i - o = (i - (o + 1)) + 1 by omega]
          simp
        · rw [if_neg h1, if_neg (by simp; omega)]
theorem heap_setCells (b : Nat) (k : Nat) (hk : k ≠ b) : ∀ (vs : List Value) (o : Nat) (w : World), (w.setCells b o vs).heap[k]? = w.heap[k]?
  | [], _, _ => rfl
  | v :: r, o, w => (heap_setCells b k hk r (o + 1) _).trans (Below.heap_setCell w ⟨b, o, none⟩ v k hk)
theorem size_setCells (b : Nat) : ∀ (vs : List Value) (o : Nat) (w : World), (w.setCells b o vs).heap.size = w.heap.size
  | [], _, _ => rfl
  | v :: r, o, w => (size_setCells b r (o + 1) _).trans (by simp [World.setCell])
theorem below_setCells {B : Nat} {a : World} {b : Nat} (hB : B ≤ b) : ∀ (vs : List Value) (o : Nat) (w : World), Below B a w → Below B a (w.setCells b o vs)
  | [], _, _, h => h
  | v :: r, o, w, h => below_setCells hB r (o + 1) _ (h.setCell hB v)
/-- A whole operation goes into the row. -/
theorem OwnO.put {w : World} {b c n : Nat} {f : Nat → OpV} (h : OwnO w b c n f) {k : Nat} (_hk : k < c) (o : OpV) : OwnO (w.setCells b (k * 12) (opL o)) b c n (fun i => if i = k then o else f i) := by
  obtain ⟨g, h, hn, hg⟩ := h
  refine ⟨_, rowIs_setCells (opL o) (k * 12) w g h, hn, fun i hi j hj => ?_⟩
  show _ = (opL (if i = k then o else f i)).getD j undef
  by_cases e : i = k
  · subst e
    rw [if_pos (by rw [opL_len]; omega), if_pos rfl, show i * 12 + j - i * 12 = j by omega]
  · rw [if_neg (by rw [opL_len]; omega), if_neg e, hg i hi j hj]
theorem OwnO.rd {w : World} {b c : Nat} {os : List OpV} (h : OwnO w b c os.length (fun i => os.getD i zop)) : RdO w (some ⟨b, 0, none⟩) os :=
  .inr ⟨b, 0, rfl, fun k hk => by rw [Nat.zero_add]; exact h.range hk⟩

/-- The flat cells of a list of operations. -/
def flat (os : List OpV) : List Value := os.flatMap opL
theorem flat_nil : flat [] = [] := rfl
theorem flat_len (os : List OpV) : (flat os).length = os.length * 12 := by
  induction os with
  | nil => rfl
  | cons o r ih => simp only [flat, List.flatMap_cons, List.length_append] at ih ⊢; rw [ih, opL_len, List.length_cons]; omega
theorem flat_append (a b : List OpV) : flat (a ++ b) = flat a ++ flat b := by simp [flat]
theorem flat_one (o : OpV) : flat [o] = opL o := by simp [flat]
theorem flat_get : ∀ (os : List OpV) (k j : Nat), k < os.length → j < 12 → (flat os)[k * 12 + j]? = (opL (os.getD k zop))[j]?
  | [], k, j, h, _ => absurd h (by simp)
  | o :: r, 0, j, _, hj => by
      show (opL o ++ flat r)[0 * 12 + j]? = _
      rw [Nat.zero_mul, Nat.zero_add, List.getElem?_append_left (by rw [opL_len]; exact hj)]
      rfl
  | o :: r, k + 1, j, h, hj => by
      show (opL o ++ flat r)[(k + 1) * 12 + j]? = _
      rw [List.getElem?_append_right (by rw [opL_len]; omega), opL_len, show (k + 1) * 12 + j - 12 = k * 12 + j by omega, flat_get r k j (by simpa using h) hj]
      simp
theorem flat_one' (os : List OpV) : ∀ u ∈ flat os, u.oneCell' = true := by
  intro u hu
  obtain ⟨o, _, ho⟩ := List.mem_flatMap.1 hu
  simp only [opL, List.mem_cons, List.not_mem_nil, or_false] at ho
  rcases ho with rfl | rfl | rfl | rfl | rfl | rfl | rfl | rfl | rfl | rfl | rfl | rfl <;> rfl

/-- A slice value that the call owns, holding the operations os. -/
def RowO (lo : Nat) (w : World) (a : Option Addr) (c n : Nat) (f : Nat → OpV) : Prop :=
  (a = none ∧ n = 0) ∨ ∃ b, a = some ⟨b, 0, none⟩ ∧ lo ≤ b ∧ OwnO w b c n f
theorem RowO.rd {lo : Nat} {w : World} {a : Option Addr} {c : Nat} {os : List OpV} (h : RowO lo w a c os.length (fun i => os.getD i zop)) : RdO w a os := by
  rcases h with ⟨_, h0⟩ | ⟨b, rfl, _, h⟩
  · exact .inl (List.eq_nil_of_length_eq_zero h0)
  · exact h.rd
theorem RowO.below {lo : Nat} {w w' : World} {a : Option Addr} {c n : Nat} {f : Nat → OpV} (h : RowO lo w a c n f) (hb : Below w.heap.size w w') : RowO lo w' a c n f := by
  rcases h with h | ⟨b, ha, hl, h⟩
  · exact .inl h
  · exact .inr ⟨b, ha, hl, h.below hb⟩
theorem RowO.hi {lo : Nat} {w : World} {a : Option Addr} {c n : Nat} {f : Nat → OpV} (h : RowO lo w a c n f) : ∀ b, blkA a = some b → lo ≤ b ∧ b < w.heap.size := by
  rcases h with ⟨rfl, _⟩ | ⟨b, rfl, hl, h⟩
  · intro b hb; cases hb
  · intro b' hb
    obtain rfl : b = b' := by simpa [blkA] using hb
    exact ⟨hl, h.lt⟩
theorem RowO.grown {lo : Nat} {w w' : World} {a : Option Addr} {c n : Nat} {f : Nat → OpV} {r : Option Nat} (h : RowO lo w a c n f) (hb : w.grownBy w' r) (hne : ∀ b, blkA a = some b → r ≠ some b) : RowO lo w' a c n f := by
  rcases h with h | ⟨b, rfl, hl, h⟩
  · exact .inl h
  · exact .inr ⟨b, rfl, hl, h.grown hb (hne b rfl)⟩

/-- What the library's append and make leave. -/
theorem ownedO {base : Nat} {w : World} {v : Value} {os : List OpV} (h : w.ownsRow base 30 12 v os.length (flat os)) :
    ∃ a c, v = .slice a os.length c ∧ RowO base w a c os.length (fun i => os.getD i zop) := by
  rcases h.2 with ⟨rfl, h0⟩ | ⟨g, cap, cur, rfl, hb, hh, hn, hm, hs, ht⟩
  · exact ⟨none, 0, by rw [h0], .inl ⟨rfl, h0⟩⟩
  · refine ⟨_, _, rfl, .inr ⟨g, rfl, hb, fun i => cur.getD i undef, ⟨cur, hh, hs, fun i hi => ?_⟩, hn, fun k hk j hj => ?_⟩⟩
    · show cur[i]? = some (cur.getD i undef)
      rw [Array.getD_eq_getD_getElem?, Array.getElem?_eq_getElem (by omega)]; rfl
    · have e : (cur.toList.take (os.length * 12))[k * 12 + j]? = (flat os)[k * 12 + j]? := by rw [ht]
      rw [List.getElem?_take_of_lt (by omega), flat_get os k j hk hj, Array.getElem?_toList] at e
      show cur.getD (k * 12 + j) undef = (opL (os.getD k zop)).getD j undef
      rw [Array.getD_eq_getD_getElem?, List.getD_eq_getElem?_getD, e]

/-- The value returned is the slice of os: nil, or in new memory. -/
def GivesO (w : World) (os : List OpV) (e : Ending) (w' : World) : Prop :=
  ∃ a c, e = .returned (.slice a os.length c) ∧ RowO w.heap.size w' a c os.length (fun i => os.getD i zop) ∧ Below w.heap.size w w'

end Go.Proofs.Ytkkeaimoplkliaa.LgA
