/-
  LogMerge and LogInsert of the model, and slices.Clone at operations: contracts. For slices that read as lists of at most 2^20 operations.
-/
import Derived.Test.YtdbnflgckcjlcaaLhA
import Derived.Test.YtdbnflgckcjlcaaK5
namespace Go.Proofs.Ytdbnflgckcjlcaa.LhB
open Go.RowKit Go.Proofs.Ytdbnflgckcjlcaa.Base Go.Proofs.Ytdbnflgckcjlcaa.St Go.Proofs.Ytdbnflgckcjlcaa.StB Go.Proofs.Ytdbnflgckcjlcaa.OpA Go.Proofs.Ytdbnflgckcjlcaa.OpB Go.Proofs.Ytdbnflgckcjlcaa.LgA Go.Proofs.Ytdbnflgckcjlcaa.LgB Go.Proofs.Ytdbnflgckcjlcaa.LgC Go.Proofs.Ytdbnflgckcjlcaa.LgF Go.Proofs.Ytdbnflgckcjlcaa.LgI Go.Proofs.Ytdbnflgckcjlcaa.LgP Go.Proofs.Ytdbnflgckcjlcaa.LgQ Go.Proofs.Ytdbnflgckcjlcaa.LgR Go.Proofs.Ytdbnflgckcjlcaa.LgT Go.Proofs.Ytdbnflgckcjlcaa.LgZ Go.Proofs.Ytdbnflgckcjlcaa.LhA
set_option linter.unusedVariables false

theorem lenN (l : List OpV) : l.length = l.length := rfl
/-- The first log with the first k operations of the second. -/
def mf (a b : List OpV) (k : Nat) : List OpV := (b.take k).foldl (fun s e => mstep e id s) a
theorem mf_succ (a b : List OpV) (k : Nat) (h : k < b.length) : mf a b (k + 1) = mstep (b.getD k zop) id (mf a b k) := by
  unfold mf
  rw [List.take_succ_eq_append_getElem h, List.foldl_append, List.getD_eq_getElem?_getD, List.getElem?_eq_getElem h]
  rfl
theorem mf_len (a b : List OpV) (k : Nat) (h : k ≤ b.length) : (mf a b k).length ≤ a.length + k := by
  induction k with
  | zero => simp [mf]
  | succ k ih =>
    rw [mf_succ a b k (by omega)]
    have := mstep_len (b.getD k zop) id 0 (fun s => Nat.le_refl _) (mf a b k)
    have := ih (by omega)
    omega
theorem mf_all (a b : List OpV) (h : vlog b = true) : mf a b b.length = uni b a := by
  unfold mf
  rw [List.take_length]
  refine foldl_uni b (srt_of ?_) a
  unfold vlog at h
  simp only [Bool.and_eq_true] at h
  exact h.2.2
/-- The answer of LogMerge. -/
def mergeL (a b : List OpV) : List OpV := if vlog a && vlog b then (if (uni b a).length ≤ 40 then uni b a else a) else []
def mergeT (a b : List OpV) : Bool := vlog a && (vlog b && decide ((uni b a).length ≤ 40))
/-- The answer of LogInsert. -/
def insL (os : List OpV) (o : OpV) : List OpV := if vlog os then (if vop o && decide ((mstep o id os).length ≤ 40) then mstep o id os else os) else []
def insT (os : List OpV) (o : OpV) : Bool := vlog os && (vop o && decide ((mstep o id os).length ≤ 40))
theorem OwnsO.givesB {w w' : World} {v : Value} {os : List OpV} {t : Bool} (h : OwnsO w' w.heap.size v os) (hb : Below w.heap.size w w') : GivesOB w os t (.returned (.tuple #[v, .bool t])) w' := by
  obtain ⟨a, c, rfl, hr⟩ := ownedO h
  exact ⟨a, c, rfl, hr, hb⟩
theorem nilB {w w' : World} (hb : Below w.heap.size w w') : GivesOB w [] false (.returned (.tuple #[.slice none 0 0, .bool false])) w' := ⟨none, 0, rfl, .inl ⟨rfl, rfl⟩, hb⟩

end Go.Proofs.Ytdbnflgckcjlcaa.LhB
