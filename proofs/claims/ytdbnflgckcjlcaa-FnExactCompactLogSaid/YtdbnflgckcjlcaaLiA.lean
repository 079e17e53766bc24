/-
  Which operations of a log are in effect: as the model reckons it and as the program does; the same for valid logs. And maps from stamps to bools that a call makes: look-up and store.
-/
import Derived.Test.YtdbnflgckcjlcaaK5
import Derived.Maps.Own
import Derived.Maps.Views
import Derived.Outline
namespace Go.Proofs.Ytdbnflgckcjlcaa.LiA
open Go.RowKit Go.Proofs.Ytdbnflgckcjlcaa.Base Go.Proofs.Ytdbnflgckcjlcaa.St Go.Proofs.Ytdbnflgckcjlcaa.StB Go.Proofs.Ytdbnflgckcjlcaa.OpA Go.Proofs.Ytdbnflgckcjlcaa.OpB Go.Proofs.Ytdbnflgckcjlcaa.LgA Go.Proofs.Ytdbnflgckcjlcaa.LgB Go.Proofs.Ytdbnflgckcjlcaa.LgF Go.Proofs.Ytdbnflgckcjlcaa.LgP
set_option linter.unusedVariables false

/-- Operation p is an undo of o by o's own author. -/
def und (o p : OpV) : Bool := decide (p.k = 10) && (decide (p.ts = o.i) && (decide (p.ta = o.j) && (decide (p.j = o.j) && !decide (o.k = 10))))
/-- Operation i is in effect, as the k operations behind it say. -/
def liv (os : List OpV) (i : Nat) : Nat → Bool
  | 0 => true
  | k + 1 => if und (os.getD i zop) (os.getD (i + 1 + k) zop) then (os.getD (i + 1 + k) zop).en else liv os i k
/-- What the model answers. -/
def actv (os : List OpV) : List Bool := (List.range os.length).map fun i => liv os i (os.length - (i + 1))
/-- What the first k operations have laid at a stamp. -/
def mpf (os : List OpV) : Nat → Int → Int → Bool
  | 0, _, _ => false
  | k + 1, s, a => if (os.getD k zop).k = 10 ∧ (os.getD k zop).ta = (os.getD k zop).j ∧ (os.getD k zop).ts = s ∧ (os.getD k zop).ta = a then !(os.getD k zop).en else mpf os k s a
/-- Operation i is in effect, as the program reckons it. -/
def liv2 (os : List OpV) (i : Nat) : Bool := decide ((os.getD i zop).k = 10) || !(mpf os os.length (os.getD i zop).i (os.getD i zop).j)

theorem lt_trans {s a t b u c : Int} (h : slt s a t b = true) (k : slt t b u c = true) : slt s a u c = true := by
  simp [slt] at *
  omega
theorem lt_irr {s a : Int} : slt s a s a = false := by simp [slt]
theorem asc_lt {os : List OpV} (h : vlog os = true) (i : Nat) : ∀ d, i + d + 1 < os.length → slt (os.getD i zop).i (os.getD i zop).j (os.getD (i + d + 1) zop).i (os.getD (i + d + 1) zop).j = true
  | 0, hd => by
    cases e : lessAt os i
    · rw [ascTo_bad hd e] at h; cases h
    · exact e
  | d + 1, hd => by
    have h1 := asc_lt h i d (by omega)
    refine lt_trans h1 ?_
    cases e : lessAt os (i + d + 1)
    · rw [ascTo_bad hd e] at h; cases h
    · exact e
theorem vop_of {os : List OpV} (h : vlog os = true) {k : Nat} (hk : k < os.length) : vop (os.getD k zop) = true := by
  have h := allTo_of h
  unfold allTo at h
  rw [List.all_eq_true] at h
  exact h k (by simpa using hk)
/-- An undo's target is earlier than the undo. -/
theorem undo_lt {o : OpV} (h : vop o = true) (hk : o.k = 10) : slt o.ts o.ta o.i o.j = true := by
  have h2 : opKindOk o = true := by
    unfold vop at h
    simp only [Bool.and_eq_true] at h
    exact h.2
  unfold opKindOk at h2
  rw [if_neg (by omega), if_neg (by omega), if_neg (by omega), if_neg (by omega), if_neg (by omega), if_neg (by omega), if_neg (by omega), if_neg (by omega), if_neg (by omega), if_pos hk] at h2
  simp only [Bool.and_eq_true] at h2
  have h1 := h2.1
  unfold vref at h1
  split at h1
  · cases h1
  · simp only [Bool.and_eq_true] at h1
    exact h1.2
theorem mpf_none {os : List OpV} (h : vlog os = true) {i : Nat} (hi : i < os.length) : ∀ k, k ≤ i + 1 → mpf os k (os.getD i zop).i (os.getD i zop).j = false
  | 0, _ => rfl
  | k + 1, hk => by
    rw [mpf, if_neg, mpf_none h hi k (by omega)]
    rintro ⟨h1, h2, h3, h4⟩
    have hu := undo_lt (vop_of h (show k < os.length by omega)) h1
    rw [h3, h4] at hu
    by_cases e : k = i
    · subst e; rw [lt_irr] at hu; cases hu
    · have hl := asc_lt h k (i - k - 1) (by omega)
      rw [show k + (i - k - 1) + 1 = i by omega] at hl
      have := lt_trans hu hl
      rw [lt_irr] at this
      cases this
theorem liv_eq {os : List OpV} (h : vlog os = true) {i : Nat} (hi : i < os.length) (hne : (os.getD i zop).k ≠ 10) : ∀ k, liv os i k = !(mpf os (i + 1 + k) (os.getD i zop).i (os.getD i zop).j)
  | 0 => by rw [mpf_none h hi (i + 1) (Nat.le_refl _)]; rfl
  | k + 1 => by
    rw [liv, show i + 1 + (k + 1) = (i + 1 + k) + 1 from rfl, mpf]
    by_cases e : und (os.getD i zop) (os.getD (i + 1 + k) zop) = true
    · rw [if_pos e]
      unfold und at e
      simp only [Bool.and_eq_true, decide_eq_true_eq] at e
      obtain ⟨e1, e2, e3, e4, e5⟩ := e
      rw [if_pos ⟨e1, by rw [e3, e4], e2, e3⟩]
      simp
    · rw [if_neg e, if_neg, liv_eq h hi hne k]
      rintro ⟨e1, e2, e3, e4⟩
      apply e
      unfold und
      rw [decide_eq_true e1, decide_eq_true e3, decide_eq_true e4, decide_eq_true (e2.symm.trans e4), decide_eq_false hne]
      rfl
theorem liv_undo {os : List OpV} {i : Nat} (he : (os.getD i zop).k = 10) : ∀ k, liv os i k = true
  | 0 => rfl
  | k + 1 => by
    rw [liv, if_neg, liv_undo he k]
    unfold und
    simp only [he, decide_true, Bool.not_true, Bool.and_false]
    simp
theorem liv2_eq {os : List OpV} (h : vlog os = true) {i : Nat} (hi : i < os.length) : liv os i (os.length - (i + 1)) = liv2 os i := by
  unfold liv2
  by_cases he : (os.getD i zop).k = 10
  · rw [liv_undo he, he]; rfl
  · rw [liv_eq h hi he, show i + 1 + (os.length - (i + 1)) = os.length by omega, decide_eq_false he]; simp

/-! ### maps from stamps to bools -/
set_option maxRecDepth 100000 in
theorem rowSt : (61 : TypeId) < Try.prog.types.size := of_decide_eq_true (by kernel_rfl)
theorem wideSt : (match Try.prog.underlying 61 with | some (.array _ _) | some (.struct _) => true | _ => false) = true := by kernel_rfl
theorem laidOut' : laidOutB Try.prog = true := by kernel_rfl
set_option maxRecDepth 100000 in
theorem lawSt : Go.Maps.Keyed Try.prog 61 := Go.Maps.Keyed.of_law (deep_law_laid laidOut' (m := 2) (by omega) rowSt (by kernel_rfl) wideSt)
def stK (s a : Int) : Lit := .string (keyBytes [.int .i64 s, .int .i64 a])
theorem keyOf_two {P : Program} {k e : TypeId} {q : IntKind} {fs : Array Field} (hu : P.underlying k = some (.struct fs)) (hfs : ∃ f0 f1, fs = #[f0, f1] ∧ f0.type = e ∧ f1.type = e ∧ f0.offset = 0 ∧ f1.offset = 1 ∧ f0.name ≠ "_" ∧ f1.name ≠ "_")
    (hkt : P.keyType k = true) (hc : P.cellsOf k = 2) (h1 : P.cellsOf e = 1) (he : P.underlying e = some (.int q)) (hsz : k < P.types.size) {s a : Int} (hs : (Lit.int q s).wf = true) (ha : (Lit.int q a).wf = true) :
    keyOf P k (.agg #[.int q s, .int q a]) = some (.string (keyBytes [.int q s, .int q a])) := by
  obtain ⟨m, hm⟩ : ∃ m, P.types.size = m + 1 := ⟨_, (Nat.succ_pred_eq_of_pos (Nat.lt_of_le_of_lt (Nat.zero_le _) hsz)).symm⟩
  obtain ⟨f0, f1, rfl, t0, t1, o0, o1, n0, n1⟩ := hfs
  unfold keyOf
  simp only [hu]
  rw [if_pos (by simp [hkt, Value.formed, hu, hc]), hm]
  unfold Program.keyLits
  simp only [hu, Value.cells]
  simp [hc, h1, Program.keyLits, he, hs, ha, t0, t1, o0, o1, n0, n1]
set_option maxRecDepth 100000 in
theorem keySt {s a : Int} (hs : (Lit.int .i64 s).wf = true) (ha : (Lit.int .i64 a).wf = true) : keyOf Try.prog 61 (.agg #[.int .i64 s, .int .i64 a]) = some (stK s a) :=
  keyOf_two Try.underlying61 ⟨_, _, rfl, rfl, rfl, rfl, rfl, by decide, by decide⟩ (by kernel_rfl) (by kernel_rfl) (by kernel_rfl) Try.underlying3 rowSt hs ha
theorem plainElem_bool_inv {H : Type} {P : Program} {e : TypeId} (he : P.underlying e = some .bool) {v : Value} {z : DataW H × List MemPlace} (h : plainElem P e v = some z) : ∃ x, v = .bool x ∧ z = (.lit (.bool x), []) := by
  unfold plainElem at h
  rw [he] at h
  cases v <;> simp at h
  subst h
  exact ⟨_, rfl, rfl⟩

/-- Block b is a map of at most n entries that holds what f says, false where it holds nothing. -/
def Mp (w : World) (b n : Nat) (f : Int → Int → Bool) : Prop :=
  ∃ D : DataW Unit, w.ownsMap Try.prog 61 (plainElem Try.prog 4) b n D ∧ Maps.IsMap D ∧ ∀ s a, (Lit.int .i64 s).wf = true → (Lit.int .i64 a).wf = true → D.atKey (stK s a) (.lit (.bool false)) = .lit (.bool (f s a))
theorem Mp.made (w : World) : Mp (w.alloc (.map #[] 0)) w.heap.size 0 (fun _ _ => false) :=
  ⟨.map [], World.ownsMap_made w _ _ _, Maps.isMap_empty, fun _ _ _ _ => rfl⟩
theorem Mp.lt {w : World} {b n : Nat} {f : Int → Int → Bool} (h : Mp w b n f) : b < w.heap.size := by
  obtain ⟨D, h, _⟩ := h
  exact h.lt
theorem Mp.grown {w w' : World} {b n : Nat} {f : Int → Int → Bool} {r : Option Nat} (h : Mp w b n f) (hg : w.grownBy w' r) (hne : some b ≠ r) : Mp w' b n f := by
  obtain ⟨D, h, h2⟩ := h
  exact ⟨D, h.kept hg hne, h2⟩
theorem Mp.below {w w' : World} {b n : Nat} {f : Int → Int → Bool} (h : Mp w b n f) (hb : Below w.heap.size w w') : Mp w' b n f :=
  h.grown (r := none) ⟨hb.os, hb.tape, hb.output, hb.size, fun k hk _ => hb.block k hk⟩ (by simp)
theorem Mp.congr {w : World} {b n : Nat} {f g : Int → Int → Bool} (h : Mp w b n f) (e : ∀ s a, f s a = g s a) : Mp w b n g := by
  obtain ⟨D, h, h2, h3⟩ := h
  exact ⟨D, h, h2, fun s a hs ha => by rw [← e]; exact h3 s a hs ha⟩
theorem Mp.alloc {w : World} {b n : Nat} {f : Int → Int → Bool} (h : Mp w b n f) (o : Obj) : Mp (w.alloc o) b n f := h.grown (World.grownBy_alloc w o none) (by simp)
theorem Mp.mono {w : World} {b n n' : Nat} {f : Int → Int → Bool} (h : Mp w b n f) (hn : n ≤ n') : Mp w b n' f := by
  obtain ⟨D, h, h2⟩ := h
  exact ⟨D, h.mono hn, h2⟩
theorem zeroB (w : World) : (zeroValue 4).run Try.prog w = .ok (.bool false) w := by kernel_rfl
end Go.Proofs.Ytdbnflgckcjlcaa.LiA
