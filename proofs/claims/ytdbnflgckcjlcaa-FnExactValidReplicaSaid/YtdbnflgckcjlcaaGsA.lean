/-
  Slices of structs in general: how one reads as a list, a row of the call's own, what stores do to it. Plain facts on worlds; no condition.
-/
import Derived.Test.YtdbnflgckcjlcaaBase
import Derived.Deep.MidRow
import Derived.Deep.OwnRows
import Derived.Laws.OwnMore
namespace Go.Proofs.Ytdbnflgckcjlcaa.GsA
open Go.RowKit Go.Proofs.Ytdbnflgckcjlcaa.Base
set_option linter.unusedVariables false

/-- A kind of element: its cells. -/
structure Elt (α : Type) where
  n : Nat
  L : α → List Value
  z : α
  hn : 0 < n
  len : ∀ x, (L x).length = n
  one : ∀ x, ∀ u ∈ L x, u.oneCell' = true

section
variable {α : Type} (E : Elt α)

/-- The slice at address a reads as the list xs. -/
def RdG (w : World) (a : Option Addr) (xs : List α) : Prop :=
  xs = [] ∨ ∃ b off, a = some ⟨b, off, none⟩ ∧ ∀ k, k < xs.length → w.rangeAt b (off + k * E.n) (E.L (xs.getD k E.z))
theorem rangeAt_block {w w' : World} {b o : Nat} {cs : List Value} (h : w.rangeAt b o cs) (e : w'.heap[b]? = w.heap[b]?) : w'.rangeAt b o cs :=
  fun j v hv => (World.cell?_of_block (w := w) e).trans (h j v hv)
theorem rangeAt_below {B : Nat} {w w' : World} {b o : Nat} {cs : List Value} (h : w.rangeAt b o cs) (hb : Below B w w') (hl : b < B) : w'.rangeAt b o cs := rangeAt_block h (hb.block b hl)
theorem rangeAt_ltG {w : World} {b o : Nat} {x : α} (h : w.rangeAt b o (E.L x)) : b < w.heap.size := by
  have hl := E.len x
  have hn := E.hn
  exact World.block_lt_of_cell? w _ (h 0 _ (List.getElem?_eq_getElem (by omega)))
variable {E}
theorem RdG.below {w w' : World} {a : Option Addr} {xs : List α} (h : RdG E w a xs) (hb : Below w.heap.size w w') : RdG E w' a xs := by
  rcases h with h | ⟨b, off, ha, hc⟩
  · exact .inl h
  · exact .inr ⟨b, off, ha, fun k hk => rangeAt_below (hc k hk) hb (rangeAt_ltG E (hc k hk))⟩
def blkA (a : Option Addr) : Option Nat := a.map (·.block)
theorem RdG.grown {w w' : World} {a : Option Addr} {xs : List α} {r : Option Nat} (h : RdG E w a xs) (hb : w.grownBy w' r) (hne : ∀ b, blkA a = some b → r ≠ some b) : RdG E w' a xs := by
  rcases h with h | ⟨b, off, rfl, hc⟩
  · exact .inl h
  · exact .inr ⟨b, off, rfl, fun k hk => rangeAt_block (hc k hk) (hb.block b (rangeAt_ltG E (hc k hk)) (fun e => hne b rfl e.symm))⟩
variable (E)

/-- Block b is a row of c elements of the call's own; the first n are f 0, f 1, .. -/
def OwnG (T : TypeId) (w : World) (b c n : Nat) (f : Nat → α) : Prop :=
  ∃ g : Nat → Value, w.rowIs b T (c * E.n) g ∧ n ≤ c ∧ ∀ k, k < n → ∀ j, j < E.n → g (k * E.n + j) = (E.L (f k)).getD j undef
variable {E}
variable {T : TypeId}
theorem OwnG.lt {w : World} {b c n : Nat} {f : Nat → α} (h : OwnG E T w b c n f) : b < w.heap.size := by obtain ⟨g, h, _⟩ := h; exact h.lt
theorem OwnG.le {w : World} {b c n : Nat} {f : Nat → α} (h : OwnG E T w b c n f) : n ≤ c := by obtain ⟨g, _, h, _⟩ := h; exact h
theorem mul_add_lt {k c n j : Nat} (hk : k < c) (hj : j < n) : k * n + j < c * n := by
  have : (k + 1) * n ≤ c * n := Nat.mul_le_mul_right n hk
  rw [Nat.add_mul] at this
  omega
theorem OwnG.range {w : World} {b c n : Nat} {f : Nat → α} (h : OwnG E T w b c n f) {k : Nat} (hk : k < n) : w.rangeAt b (k * E.n) (E.L (f k)) := by
  obtain ⟨g, h, hn, hg⟩ := h
  intro j v hv
  have hj : j < E.n := by
    have := (List.getElem?_eq_some_iff.1 hv).1
    rwa [E.len] at this
  rw [h.cell (i := k * E.n + j) (mul_add_lt (by omega) hj), hg k hk j hj, List.getD_eq_getElem?_getD, hv]
  rfl
theorem OwnG.frozen {w : World} {b c n : Nat} {f : Nat → α} (h : OwnG E T w b c n f) (i : Nat) : w.frozen? ⟨b, i, none⟩ = false := by
  obtain ⟨g, h, _⟩ := h
  exact h.frozen i
theorem OwnG.there {w : World} {b c n : Nat} {f : Nat → α} (h : OwnG E T w b c n f) {k : Nat} (hk : k < c) (j m : Nat) (hj : j + m ≤ E.n) : w.there b (k * E.n + j) m := by
  obtain ⟨g, h, hn, hg⟩ := h
  intro i hi
  exact ⟨by rw [h.cell (i := k * E.n + j + i) (by rw [Nat.add_assoc]; exact mul_add_lt hk (by omega))]; rfl, h.frozen _⟩
theorem OwnG.of_block {w w' : World} {b c n : Nat} {f : Nat → α} (h : OwnG E T w b c n f) (e : w'.heap[b]? = w.heap[b]?) : OwnG E T w' b c n f := by
  obtain ⟨g, h, hn, hg⟩ := h
  exact ⟨g, h.of_block e, hn, hg⟩
theorem OwnG.below {w w' : World} {b c n : Nat} {f : Nat → α} (h : OwnG E T w b c n f) (hb : Below w.heap.size w w') : OwnG E T w' b c n f := h.of_block (hb.block b h.lt)
theorem OwnG.grown {w w' : World} {b c n : Nat} {f : Nat → α} {r : Option Nat} (h : OwnG E T w b c n f) (hb : w.grownBy w' r) (hne : r ≠ some b) : OwnG E T w' b c n f :=
  h.of_block (hb.block b h.lt (fun e => hne e.symm))
theorem OwnG.congr {w : World} {b c n : Nat} {f f' : Nat → α} (h : OwnG E T w b c n f) (e : ∀ k, k < n → f k = f' k) : OwnG E T w b c n f' := by
  obtain ⟨g, h, hn, hg⟩ := h
  exact ⟨g, h, hn, fun k hk j hj => by rw [hg k hk j hj, e k hk]⟩
theorem rowIs_setCells {b : Nat} {t : TypeId} {n : Nat} : ∀ (vs : List Value) (o : Nat) (w : World) (f : Nat → Value), w.rowIs b t n f → (w.setCells b o vs).rowIs b t n (fun i => if o ≤ i ∧ i < o + vs.length then vs.getD (i - o) undef else f i)
  | [], o, w, f, h => h.congr fun i _ => by
      have : ¬ (o ≤ i ∧ i < o + ([] : List Value).length) := by simp
      rw [if_neg this]
  | v :: r, o, w, f, h => by
      refine (rowIs_setCells r (o + 1) _ _ (h.set o v)).congr fun i _ => ?_
      by_cases e : i = o
      · subst e
        rw [if_neg (by omega), if_pos rfl, if_pos (by simp)]
        simp
      · rw [if_neg e]
        by_cases h1 : o + 1 ≤ i ∧ i < o + 1 + r.length
        · rw [if_pos h1, if_pos (by simp; omega)]
          rw [show i - o = (i - (o + 1)) + 1 by omega]
          simp
        · rw [if_neg h1, if_neg (by simp; omega)]
theorem heap_setCells (b : Nat) (k : Nat) (hk : k ≠ b) : ∀ (vs : List Value) (o : Nat) (w : World), (w.setCells b o vs).heap[k]? = w.heap[k]?
  | [], _, _ => rfl
  | v :: r, o, w => (heap_setCells b k hk r (o + 1) _).trans (Below.heap_setCell w ⟨b, o, none⟩ v k hk)
theorem size_setCells (b : Nat) : ∀ (vs : List Value) (o : Nat) (w : World), (w.setCells b o vs).heap.size = w.heap.size
  | [], _, _ => rfl
  | v :: r, o, w => (size_setCells b r (o + 1) _).trans (by simp [World.setCell])
theorem below_setCells {B : Nat} {a : World} {b : Nat} (hB : B ≤ b) : ∀ (vs : List Value) (o : Nat) (w : World), Below B a w → Below B a (w.setCells b o vs)
  | [], _, _, h => h
  | v :: r, o, w, h => below_setCells hB r (o + 1) _ (h.setCell hB v)
/-- A whole element goes into the row. -/
theorem OwnG.put {w : World} {b c n : Nat} {f : Nat → α} (h : OwnG E T w b c n f) {k : Nat} (_hk : k < c) (x : α) : OwnG E T (w.setCells b (k * E.n) (E.L x)) b c n (fun i => if i = k then x else f i) := by
  obtain ⟨g, h, hn, hg⟩ := h
  refine ⟨_, rowIs_setCells (E.L x) (k * E.n) w g h, hn, fun i hi j hj => ?_⟩
  show _ = (E.L (if i = k then x else f i)).getD j undef
  by_cases e : i = k
  · subst e
    rw [if_pos (by rw [E.len]; omega), if_pos rfl, show i * E.n + j - i * E.n = j by omega]
  · have hne : ¬ (k * E.n ≤ i * E.n + j ∧ i * E.n + j < k * E.n + (E.L x).length) := by
      rw [E.len]
      rcases Nat.lt_or_gt_of_ne e with h1 | h1
      · have := mul_add_lt h1 hj; omega
      · have : (k + 1) * E.n ≤ i * E.n := Nat.mul_le_mul_right _ h1
        rw [Nat.add_mul] at this; omega
    rw [if_neg hne, if_neg e, hg i hi j hj]
theorem OwnG.rd {w : World} {b c : Nat} {xs : List α} (h : OwnG E T w b c xs.length (fun i => xs.getD i E.z)) : RdG E w (some ⟨b, 0, none⟩) xs :=
  .inr ⟨b, 0, rfl, fun k hk => by rw [Nat.zero_add]; exact h.range hk⟩

variable (E)
/-- The flat cells of a list. -/
def flat (xs : List α) : List Value := xs.flatMap E.L
theorem flat_len (xs : List α) : (flat E xs).length = xs.length * E.n := by
  induction xs with
  | nil => simp [flat]
  | cons x r ih => simp only [flat, List.flatMap_cons, List.length_append] at ih ⊢; rw [ih, E.len, List.length_cons, Nat.add_mul]; omega
theorem flat_append (a b : List α) : flat E (a ++ b) = flat E a ++ flat E b := by simp [flat]
theorem flat_one (x : α) : flat E [x] = E.L x := by simp [flat]
theorem flat_get : ∀ (xs : List α) (k j : Nat), k < xs.length → j < E.n → (flat E xs)[k * E.n + j]? = (E.L (xs.getD k E.z))[j]?
  | [], k, j, h, _ => absurd h (by simp)
  | x :: r, 0, j, _, hj => by
      show (E.L x ++ flat E r)[0 * E.n + j]? = _
      rw [Nat.zero_mul, Nat.zero_add, List.getElem?_append_left (by rw [E.len]; exact hj)]
      rfl
  | x :: r, k + 1, j, h, hj => by
      show (E.L x ++ flat E r)[(k + 1) * E.n + j]? = _
      have e : (k + 1) * E.n = k * E.n + E.n := by rw [Nat.add_mul, Nat.one_mul]
      rw [List.getElem?_append_right (by rw [E.len, e]; omega), E.len, show (k + 1) * E.n + j - E.n = k * E.n + j by omega, flat_get r k j (by simpa using h) hj]
      simp
theorem flat_one' (xs : List α) : ∀ u ∈ flat E xs, u.oneCell' = true := by
  intro u hu
  obtain ⟨o, _, ho⟩ := List.mem_flatMap.1 hu
  exact E.one o u ho

/-- A slice value that the call owns, holding f 0, f 1, .. -/
def RowG (T : TypeId) (lo : Nat) (w : World) (a : Option Addr) (c n : Nat) (f : Nat → α) : Prop :=
  (a = none ∧ n = 0) ∨ ∃ b, a = some ⟨b, 0, none⟩ ∧ lo ≤ b ∧ OwnG E T w b c n f
variable {E}
theorem RowG.rd {lo : Nat} {w : World} {a : Option Addr} {c : Nat} {xs : List α} (h : RowG E T lo w a c xs.length (fun i => xs.getD i E.z)) : RdG E w a xs := by
  rcases h with ⟨_, h0⟩ | ⟨b, rfl, _, h⟩
  · exact .inl (List.eq_nil_of_length_eq_zero h0)
  · exact h.rd
theorem RowG.below {lo : Nat} {w w' : World} {a : Option Addr} {c n : Nat} {f : Nat → α} (h : RowG E T lo w a c n f) (hb : Below w.heap.size w w') : RowG E T lo w' a c n f := by
  rcases h with h | ⟨b, ha, hl, h⟩
  · exact .inl h
  · exact .inr ⟨b, ha, hl, h.below hb⟩
theorem RowG.hi {lo : Nat} {w : World} {a : Option Addr} {c n : Nat} {f : Nat → α} (h : RowG E T lo w a c n f) : ∀ b, blkA a = some b → lo ≤ b ∧ b < w.heap.size := by
  rcases h with ⟨rfl, _⟩ | ⟨b, rfl, hl, h⟩
  · intro b hb; cases hb
  · intro b' hb
    obtain rfl : b = b' := by simpa [blkA] using hb
    exact ⟨hl, h.lt⟩
theorem RowG.grown {lo : Nat} {w w' : World} {a : Option Addr} {c n : Nat} {f : Nat → α} {r : Option Nat} (h : RowG E T lo w a c n f) (hb : w.grownBy w' r) (hne : ∀ b, blkA a = some b → r ≠ some b) : RowG E T lo w' a c n f := by
  rcases h with h | ⟨b, rfl, hl, h⟩
  · exact .inl h
  · exact .inr ⟨b, rfl, hl, h.grown hb (hne b rfl)⟩
/-- What the library's append and make leave. -/
theorem ownedG {base : Nat} {w : World} {v : Value} {xs : List α} (h : w.ownsRow base T E.n v xs.length (flat E xs)) :
    ∃ a c, v = .slice a xs.length c ∧ RowG E T base w a c xs.length (fun i => xs.getD i E.z) := by
  rcases h.2 with ⟨rfl, h0⟩ | ⟨g, cap, cur, rfl, hb, hh, hn, hm, hs, ht⟩
  · exact ⟨none, 0, by rw [h0], .inl ⟨rfl, h0⟩⟩
  · refine ⟨_, _, rfl, .inr ⟨g, rfl, hb, fun i => cur.getD i undef, ⟨cur, hh, hs, fun i hi => ?_⟩, hn, fun k hk j hj => ?_⟩⟩
    · show cur[i]? = some (cur.getD i undef)
      rw [Array.getD_eq_getD_getElem?, Array.getElem?_eq_getElem (by omega)]; rfl
    · have e : (cur.toList.take (xs.length * E.n))[k * E.n + j]? = (flat E xs)[k * E.n + j]? := by rw [ht]
      rw [List.getElem?_take_of_lt (mul_add_lt hk hj), flat_get E xs k j hk hj, Array.getElem?_toList] at e
      show cur.getD (k * E.n + j) undef = (E.L (xs.getD k E.z)).getD j undef
      rw [Array.getD_eq_getD_getElem?, List.getD_eq_getElem?_getD, e]

/-- A new block of n elements, each z. -/
theorem OwnG.made {w : World} {n : Nat} {C : Array Value} (hC : C.toList = E.L E.z) :
    OwnG E T (w.alloc (.cells (madeCells C (n * E.n)) T)) w.heap.size n n (fun _ => E.z) := by
  have hs : C.size = E.n := by rw [← Array.length_toList, hC, E.len]
  refine ⟨fun i => (E.L E.z).getD (i % E.n) undef, ⟨_, heap_alloc_new w _, size_madeCells _ _, fun i hi => ?_⟩, Nat.le_refl _, fun k hk j hj => ?_⟩
  · have h12 : i % E.n < E.n := Nat.mod_lt _ E.hn
    simp only [madeCells, Array.getElem?_map, Array.getElem?_range, hi, if_true, Option.map_some, hs]
    congr 1
    rw [← hC, List.getD_eq_getElem?_getD, Array.getElem?_toList, Array.getElem?_eq_getElem (by omega)]
    rw [getElem!_pos C (i % E.n) (by omega)]
    rfl
  · show (E.L E.z).getD ((k * E.n + j) % E.n) undef = _
    rw [show (k * E.n + j) % E.n = j by rw [Nat.add_comm, Nat.add_mul_mod_self_right, Nat.mod_eq_of_lt hj]]
end

end Go.Proofs.Ytdbnflgckcjlcaa.GsA
