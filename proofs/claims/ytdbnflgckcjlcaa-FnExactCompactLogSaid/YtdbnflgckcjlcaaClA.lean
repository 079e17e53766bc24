/-
  A log without the undos that later ones supersede, as lists: the value that CompactLog answers. Lists only; no condition.
-/
import Derived.Test.YtdbnflgckcjlcaaLwA
namespace Go.Proofs.Ytdbnflgckcjlcaa.ClA
open Go.Proofs.Ytdbnflgckcjlcaa.Base Go.Proofs.Ytdbnflgckcjlcaa.StB Go.Proofs.Ytdbnflgckcjlcaa.OpA Go.Proofs.Ytdbnflgckcjlcaa.OpB Go.Proofs.Ytdbnflgckcjlcaa.LgA Go.Proofs.Ytdbnflgckcjlcaa.LgF Go.Proofs.Ytdbnflgckcjlcaa.LgP Go.Proofs.Ytdbnflgckcjlcaa.LgZ Go.Proofs.Ytdbnflgckcjlcaa.LiA Go.Proofs.Ytdbnflgckcjlcaa.MoA Go.Proofs.Ytdbnflgckcjlcaa.LwA
set_option linter.unusedVariables false

/-- q is an undo of the same operation by the same author. -/
def twin (q o : OpV) : Bool := decide (q.k = 10) && ((decide (q.ts = o.ts) && decide (q.ta = o.ta)) && decide (q.j = o.j))
/-- q makes o superfluous. -/
def sup (q o : OpV) : Bool := decide (o.k = 10) && (decide (q.k = 10) && (lt o q && (decide (o.j = q.j) && (decide (o.ts = q.ts) && decide (o.ta = q.ta)))))
def need (os : List OpV) (o : OpV) : Bool := !os.any (fun q => sup q o)
def cmp (os : List OpV) : List OpV := if vlog os then keepTo (need os) os os.length else []
/-- Behind place i and before place k there is a twin. -/
def later (os : List OpV) (i k : Nat) : Bool := (List.range k).any (fun m => decide (i < m) && twin (os.getD m zop) (os.getD i zop))
theorem later_none (os : List OpV) {i k : Nat} (h : k ≤ i + 1) : later os i k = false := by
  rw [later, List.any_eq_false]
  intro m hm
  rw [List.mem_range] at hm
  simp only [Bool.and_eq_true, decide_eq_true_eq]
  omega
theorem later_succ (os : List OpV) {i k : Nat} (h : i < k) : later os i (k + 1) = (later os i k || twin (os.getD k zop) (os.getD i zop)) := by
  rw [later, List.range_succ, List.any_append]
  simp [later, h]
theorem lt_irr (o : OpV) : lt o o = false := by
  unfold lt slt
  simp
/-- In a valid log: what lies behind sorts behind. -/
theorem srt_get : ∀ {os : List OpV}, srt os → ∀ {i k : Nat}, i < k → k < os.length → lt (os.getD i zop) (os.getD k zop) = true
  | [], _, i, k, _, hk => by cases hk
  | a :: r, h, i, k, hik, hk => by
    have h' := srt_cons.1 h
    cases k with
    | zero => omega
    | succ k =>
      have hk' : k < r.length := by simpa using hk
      cases i with
      | zero =>
        rw [List.getD_cons_zero, List.getD_cons_succ]
        exact h'.1 _ (getD_mem hk')
      | succ i =>
        rw [List.getD_cons_succ, List.getD_cons_succ]
        exact srt_get h'.2 (by omega) hk'
theorem lt_asymm {p q : OpV} (h : lt p q = true) : lt q p = false := by
  unfold lt slt at *
  simp only [Bool.or_eq_true, Bool.and_eq_true, decide_eq_true_eq] at h
  rw [Bool.or_eq_false_iff, Bool.and_eq_false_iff]
  simp only [decide_eq_false_iff_not]
  omega
theorem need_later {os : List OpV} (hv : vlog os = true) {i : Nat} (hi : i < os.length) : need os (os.getD i zop) = !(decide ((os.getD i zop).k = 10) && later os i os.length) := by
  have hs := ((vlog_iff os).1 hv).2.2
  unfold need
  congr 1
  rw [Bool.eq_iff_iff, List.any_eq_true, Bool.and_eq_true, later, List.any_eq_true]
  constructor
  · rintro ⟨q, hq, h⟩
    obtain ⟨m, hm, rfl⟩ := mem_getD hq
    unfold sup at h
    simp only [Bool.and_eq_true, decide_eq_true_eq] at h
    obtain ⟨h1, h2, h3, h4, h5, h6⟩ := h
    refine ⟨by simpa using h1, m, List.mem_range.2 hm, ?_⟩
    have him : i < m := by
      rcases Nat.lt_trichotomy i m with h | rfl | h
      · exact h
      · rw [lt_irr] at h3; cases h3
      · have := srt_get hs h hi
        rw [lt_asymm this] at h3; cases h3
    unfold twin
    simp only [Bool.and_eq_true, decide_eq_true_eq]
    exact ⟨him, h2, ⟨h5.symm, h6.symm⟩, h4.symm⟩
  · rintro ⟨h1, m, hm, h⟩
    rw [List.mem_range] at hm
    unfold twin at h
    simp only [Bool.and_eq_true, decide_eq_true_eq] at h
    obtain ⟨him, h2, ⟨h3, h4⟩, h5⟩ := h
    refine ⟨os.getD m zop, getD_mem hm, ?_⟩
    unfold sup
    have := srt_get hs him hm
    simp only [Bool.and_eq_true, decide_eq_true_eq]
    exact ⟨by simpa using h1, h2, this, h5.symm, h3.symm, h4.symm⟩

end Go.Proofs.Ytdbnflgckcjlcaa.ClA
