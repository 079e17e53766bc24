/-
  LogMerge and LogInsert of the model, and slices.Clone at operations: contracts. For slices that read as lists of at most 2^20 operations.
-/
import Derived.Test.YtlogpbejfifgdaaGreatLhA
import Derived.Test.YtlogpbejfifgdaaGreatK5
namespace Go.Proofs.YtlogpbejfifgdaaGreat.LhB
open Go.RowKit Go.Proofs.YtlogpbejfifgdaaGreat.Base Go.Proofs.YtlogpbejfifgdaaGreat.St Go.Proofs.YtlogpbejfifgdaaGreat.StB Go.Proofs.YtlogpbejfifgdaaGreat.OpA Go.Proofs.YtlogpbejfifgdaaGreat.OpB Go.Proofs.YtlogpbejfifgdaaGreat.LgA Go.Proofs.YtlogpbejfifgdaaGreat.LgB Go.Proofs.YtlogpbejfifgdaaGreat.LgC Go.Proofs.YtlogpbejfifgdaaGreat.LgF Go.Proofs.YtlogpbejfifgdaaGreat.LgI Go.Proofs.YtlogpbejfifgdaaGreat.LgP Go.Proofs.YtlogpbejfifgdaaGreat.LgQ Go.Proofs.YtlogpbejfifgdaaGreat.LgR Go.Proofs.YtlogpbejfifgdaaGreat.LgT Go.Proofs.YtlogpbejfifgdaaGreat.LgZ Go.Proofs.YtlogpbejfifgdaaGreat.LhA
set_option linter.unusedVariables false

theorem lenN (l : List OpV) : l.length = l.length := rfl
/-- slices.Clone. -/
theorem clone (A : Option Addr) (c : Nat) (os : List OpV) (w : World) (hr : RdO w A os) (hl : os.length ≤ 1048576) :
    Calls Tryz.prog 40 #[.slice A os.length c] w (GivesO w os) := by
  rcases A with _ | ad
  · have h0 : os = [] := by
      rcases hr with h | ⟨b, off, e, _⟩
      · exact h
      · cases e
    subst h0
    clear hr
    have hnil : ∀ w : World, (binOp .eql 23 (.slice none 0 c) (.slice none 0 0)).run Tryz.prog w = .ok (.bool true) w := fun w => Lib.run_eql_slice_nil w _ _ _ _ _ _ _ Tryz.underlying23
    go_enter Tryz.func40, Tryz.ntmps40
    go_wp2
    go_ret
    exact givesO_nil w
  · have HE := Lib.hid (ownsO_empty w w.heap.size (Nat.le_refl _))
    have B0 : Below w.heap.size w (w.alloc (.cells #[] 39)) := (Below.refl _ _).alloc (Nat.le_refl _) _
    have HRE := Lib.hid (hr.below B0)
    clear hr
    have hnil : ∀ w : World, (binOp .eql 23 (.slice (some ad) os.length c) (.slice none 0 0)).run Tryz.prog w = .ok (.bool false) w := fun w => Lib.run_eql_slice_nil w _ _ _ _ _ _ _ Tryz.underlying23
    go_enter Tryz.func40, Tryz.ntmps40
    go_wp2_with (with_reducible refine appendOs (ps := os) rfl _ _ rfl rfl rfl HE.out HRE.out (by simp; omega) B0.size ?_; intro v1 w1 hown1 hb1 hz2)
    go_ret
    exact OwnsO.gives hown1 (B0.trans hb1)

/-- The first log with the first k operations of the second. -/
def mf (a b : List OpV) (k : Nat) : List OpV := (b.take k).foldl (fun s e => mstep e id s) a
theorem mf_succ (a b : List OpV) (k : Nat) (h : k < b.length) : mf a b (k + 1) = mstep (b.getD k zop) id (mf a b k) := by
  unfold mf
  rw [List.take_succ_eq_append_getElem h, List.foldl_append, List.getD_eq_getElem?_getD, List.getElem?_eq_getElem h]
  rfl
theorem mf_len (a b : List OpV) (k : Nat) (h : k ≤ b.length) : (mf a b k).length ≤ a.length + k := by
  induction k with
  | zero => simp [mf]
  | succ k ih =>
    rw [mf_succ a b k (by omega)]
    have := mstep_len (b.getD k zop) id 0 (fun s => Nat.le_refl _) (mf a b k)
    have := ih (by omega)
    omega
theorem mf_all (a b : List OpV) (h : vlog b = true) : mf a b b.length = uni b a := by
  unfold mf
  rw [List.take_length]
  refine foldl_uni b (srt_of ?_) a
  unfold vlog at h
  simp only [Bool.and_eq_true] at h
  exact h.2.2
/-- The answer of LogMerge. -/
def mergeL (a b : List OpV) : List OpV := if vlog a && vlog b then (if (uni b a).length ≤ 40 then uni b a else a) else []
def mergeT (a b : List OpV) : Bool := vlog a && (vlog b && decide ((uni b a).length ≤ 40))
/-- The answer of LogInsert. -/
def insL (os : List OpV) (o : OpV) : List OpV := if vlog os then (if vop o && decide ((mstep o id os).length ≤ 40) then mstep o id os else os) else []
def insT (os : List OpV) (o : OpV) : Bool := vlog os && (vop o && decide ((mstep o id os).length ≤ 40))
theorem OwnsO.givesB {w w' : World} {v : Value} {os : List OpV} {t : Bool} (h : OwnsO w' w.heap.size v os) (hb : Below w.heap.size w w') : GivesOB w os t (.returned (.tuple #[v, .bool t])) w' := by
  obtain ⟨a, c, rfl, hr⟩ := ownedO h
  exact ⟨a, c, rfl, hr, hb⟩
theorem nilB {w w' : World} (hb : Below w.heap.size w w') : GivesOB w [] false (.returned (.tuple #[.slice none 0 0, .bool false])) w' := ⟨none, 0, rfl, .inl ⟨rfl, rfl⟩, hb⟩

end Go.Proofs.YtlogpbejfifgdaaGreat.LhB
