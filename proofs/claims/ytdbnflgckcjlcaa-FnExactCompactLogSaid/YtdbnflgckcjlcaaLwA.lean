/-
  A log without one operation and its undos, as lists: the value that LogWithout answers, and what the law asks of it. Lists only; no condition.
-/
import Derived.Test.YtdbnflgckcjlcaaMoA
import Derived.Test.YtdbnflgckcjlcaaLiA
namespace Go.Proofs.Ytdbnflgckcjlcaa.LwA
open Go.Proofs.Ytdbnflgckcjlcaa.Base Go.Proofs.Ytdbnflgckcjlcaa.StB Go.Proofs.Ytdbnflgckcjlcaa.OpA Go.Proofs.Ytdbnflgckcjlcaa.OpB Go.Proofs.Ytdbnflgckcjlcaa.LgA Go.Proofs.Ytdbnflgckcjlcaa.LgF Go.Proofs.Ytdbnflgckcjlcaa.LgP Go.Proofs.Ytdbnflgckcjlcaa.LgZ Go.Proofs.Ytdbnflgckcjlcaa.LiA Go.Proofs.Ytdbnflgckcjlcaa.MoA
set_option linter.unusedVariables false

/-- What goes with the operation (s, a). -/
def gone (s a : Int) (o : OpV) : Bool := (decide (o.i = s) && decide (o.j = a)) || (decide (o.k = 10) && (decide (o.ts = s) && decide (o.ta = a)))
def kept (s a : Int) (o : OpV) : Bool := !gone s a o
def lwo (os : List OpV) (s a : Int) : List OpV := if vlog os then keepTo (kept s a) os os.length else []

theorem take_snoc {os : List OpV} {k : Nat} (h : k < os.length) : os.take (k + 1) = os.take k ++ [os.getD k zop] := by
  rw [List.take_add_one, List.getElem?_eq_getElem h, List.getD_eq_getElem?_getD, List.getElem?_eq_getElem h]
  rfl
theorem keepTo_filter (P : OpV → Bool) (os : List OpV) : ∀ k, k ≤ os.length → keepTo P os k = (os.take k).filter P
  | 0, _ => by simp [keepTo]
  | k + 1, h => by
    rw [keepTo, keepTo_filter P os k (by omega), take_snoc (by omega), List.filter_append]
    generalize os.getD k zop = q
    by_cases e : P q = true
    · rw [if_pos e]; simp [e]
    · rw [if_neg e]; simp [e]
theorem keepTo_all (P : OpV → Bool) (os : List OpV) : keepTo P os os.length = os.filter P := by
  rw [keepTo_filter P os os.length (Nat.le_refl _), List.take_length]
theorem srt_filter (P : OpV → Bool) : ∀ os : List OpV, srt os → srt (os.filter P)
  | [], h => h
  | a :: r, h => by
    rw [srt_cons] at h
    rw [List.filter_cons]
    split
    · rw [srt_cons]
      exact ⟨fun x hx => h.1 x (List.mem_filter.1 hx).1, srt_filter P r h.2⟩
    · exact srt_filter P r h.2
theorem vlog_filter {os : List OpV} (P : OpV → Bool) (h : vlog os = true) : vlog (os.filter P) = true := by
  rw [vlog_iff] at *
  exact ⟨Nat.le_trans (List.length_filter_le _ _) h.1, fun p hp => h.2.1 p (List.mem_filter.1 hp).1, srt_filter P os h.2.2⟩
theorem getD_mem {os : List OpV} {k : Nat} (h : k < os.length) : os.getD k zop ∈ os := by
  rw [List.getD_eq_getElem?_getD, List.getElem?_eq_getElem h]
  exact List.getElem_mem h
theorem mem_getD {os : List OpV} {p : OpV} (h : p ∈ os) : ∃ k, k < os.length ∧ os.getD k zop = p := by
  obtain ⟨k, hk, e⟩ := List.getElem_of_mem h
  exact ⟨k, hk, by rw [List.getD_eq_getElem?_getD, List.getElem?_eq_getElem hk]; exact e⟩
/-- In what is left there is an operation with the ID of operation i just if operation i is kept. -/
theorem left_iff {os : List OpV} (P : OpV → Bool) (h : vlog os = true) {i : Nat} (hi : i < os.length) :
    (∃ m, m < (os.filter P).length ∧ ((os.filter P).getD m zop).i = (os.getD i zop).i ∧ ((os.filter P).getD m zop).j = (os.getD i zop).j) ↔ P (os.getD i zop) = true := by
  have hs := ((vlog_iff os).1 h).2.2
  constructor
  · rintro ⟨m, hm, e1, e2⟩
    have hmem := getD_mem hm
    have h1 := List.mem_filter.1 hmem
    have := srt_once hs h1.1 (getD_mem hi) ⟨e1, e2⟩
    rw [← this]
    exact h1.2
  · intro hP
    obtain ⟨m, hm, e⟩ := mem_getD (List.mem_filter.2 ⟨getD_mem hi, hP⟩)
    exact ⟨m, hm, by rw [e], by rw [e]⟩
/-- How many of the first k are kept. -/
def cnt (P : OpV → Bool) (os : List OpV) (k : Nat) : Nat := ((os.take k).filter P).length
theorem cnt_zero (P : OpV → Bool) (os : List OpV) : cnt P os 0 = 0 := by simp [cnt]
theorem cnt_yes {P : OpV → Bool} {os : List OpV} {k : Nat} (h : k < os.length) (e : P (os.getD k zop) = true) : cnt P os (k + 1) = cnt P os k + 1 := by
  simp only [cnt, take_snoc h, List.filter_append, List.length_append]
  generalize os.getD k zop = q at e
  simp [e]
theorem cnt_no {P : OpV → Bool} {os : List OpV} {k : Nat} (h : k < os.length) (e : P (os.getD k zop) = false) : cnt P os (k + 1) = cnt P os k := by
  simp only [cnt, take_snoc h, List.filter_append, List.length_append]
  generalize os.getD k zop = q at e
  simp [e]
theorem cnt_all (P : OpV → Bool) (os : List OpV) : cnt P os os.length = (os.filter P).length := by simp [cnt]
theorem cnt_le (P : OpV → Bool) (os : List OpV) (k : Nat) : cnt P os k ≤ os.length := by
  unfold cnt
  exact Nat.le_trans (List.length_filter_le _ _) (by simp; omega)

/-- What may stand between an operation and a stamp: the ways of the two comparisons. -/
theorem split9 {A B C D E : Prop} : (¬A ∧ ¬C) ∨ (¬A ∧ C ∧ ¬D) ∨ (¬A ∧ C ∧ D ∧ ¬E) ∨ (¬A ∧ C ∧ D ∧ E) ∨ (A ∧ ¬B ∧ ¬C) ∨ (A ∧ ¬B ∧ C ∧ ¬D) ∨ (A ∧ ¬B ∧ C ∧ D ∧ ¬E) ∨ (A ∧ ¬B ∧ C ∧ D ∧ E) ∨ (A ∧ B) := by
  by_cases hA : A <;> by_cases hB : B <;> by_cases hC : C <;> by_cases hD : D <;> by_cases hE : E <;> simp_all

end Go.Proofs.Ytdbnflgckcjlcaa.LwA
