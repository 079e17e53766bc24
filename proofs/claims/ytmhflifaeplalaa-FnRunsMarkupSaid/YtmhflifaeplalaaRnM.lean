/-
  Markup as tokens: tags and characters; reading it back gives the texts, and there are as many closing tags as opening ones. Plain facts on lists; no condition.
-/
import Derived.Test.YtmhflifaeplalaaRmC
namespace Go.Proofs.Ytmhflifaeplalaa.RnM
open Go.RowKit Go.Proofs.Ytmhflifaeplalaa.Base Go.Proofs.Ytmhflifaeplalaa.GsA Go.Proofs.Ytmhflifaeplalaa.GrB Go.Proofs.Ytmhflifaeplalaa.RtA Go.Proofs.Ytmhflifaeplalaa.BtA Go.Proofs.Ytmhflifaeplalaa.RmM Go.Proofs.Ytmhflifaeplalaa.RmB Go.Proofs.Ytmhflifaeplalaa.RmC
set_option linter.unusedVariables false

inductive Tok where
  | clo (t : Nat)
  | opn (t : Nat)
  | chr (c : UInt8)
/-- The bytes of a token; its text; whether it opens, closes. -/
def tb : Tok → List UInt8
  | .clo t => [60, 47, tag t, 62]
  | .opn t => [60, tag t, 62]
  | .chr c => esc c
def tc : Tok → List UInt8
  | .chr c => [c]
  | _ => []
def isO : Tok → Nat
  | .opn _ => 1
  | _ => 0
def isC : Tok → Nat
  | .clo _ => 1
  | _ => 0
def bys : List Tok → List UInt8
  | [] => []
  | x :: r => tb x ++ bys r
def chs : List Tok → List UInt8
  | [] => []
  | x :: r => tc x ++ chs r
def nO : List Tok → Nat
  | [] => 0
  | x :: r => isO x + nO r
def nC : List Tok → Nat
  | [] => 0
  | x :: r => isC x + nC r
theorem bys_append (a b : List Tok) : bys (a ++ b) = bys a ++ bys b := by induction a with | nil => rfl | cons x r ih => simp [bys, ih]
theorem chs_append (a b : List Tok) : chs (a ++ b) = chs a ++ chs b := by induction a with | nil => rfl | cons x r ih => simp [chs, ih]
theorem nO_append (a b : List Tok) : nO (a ++ b) = nO a + nO b := by induction a with | nil => simp [nO] | cons x r ih => simp [nO, ih]; omega
theorem nC_append (a b : List Tok) : nC (a ++ b) = nC a + nC b := by induction a with | nil => simp [nC] | cons x r ih => simp [nC, ih]; omega

def clT (was now : Int) (b : Nat) : List Tok := if hb was b && !hb now b then [.clo b] else []
def opT (was now : Int) (b : Nat) : List Tok := if hb now b && !hb was b then [.opn b] else []
theorem clT_bys (was now : Int) (b : Nat) : bys (clT was now b) = clB was now b := by unfold clT clB; split <;> simp [bys, tb]
theorem opT_bys (was now : Int) (b : Nat) : bys (opT was now b) = opB was now b := by unfold opT opB; split <;> simp [bys, tb]
def tgT (was now : Int) : List Tok := clT was now 2 ++ clT was now 1 ++ clT was now 0 ++ (opT was now 0 ++ opT was now 1 ++ opT was now 2)
theorem tgT_bys (was now : Int) : bys (tgT was now) = tags was now := by
  simp only [tgT, bys_append, clT_bys, opT_bys, tags, clTo, opTo, List.nil_append]
/-- How many of the three marks are set. -/
def pop (m : Int) : Nat := (hb m 0).toNat + (hb m 1).toNat + (hb m 2).toNat
theorem tgT_chs (was now : Int) : chs (tgT was now) = [] := by
  simp only [tgT, chs_append, clT, opT]
  cases hb was 0 <;> cases hb was 1 <;> cases hb was 2 <;> cases hb now 0 <;> cases hb now 1 <;> cases hb now 2 <;> rfl
theorem tgT_bal (was now : Int) : nO (tgT was now) + pop was = nC (tgT was now) + pop now := by
  simp only [tgT, nO_append, nC_append, clT, opT, pop]
  cases hb was 0 <;> cases hb was 1 <;> cases hb was 2 <;> cases hb now 0 <;> cases hb now 1 <;> cases hb now 2 <;> rfl
theorem chr_bys (l : List UInt8) : bys (l.map Tok.chr) = escL l := by induction l with | nil => rfl | cons c r ih => simp [bys, tb, escL, ih]
theorem chr_chs (l : List UInt8) : chs (l.map Tok.chr) = l := by induction l with | nil => rfl | cons c r ih => simp [chs, tc, ih]
theorem chr_nO (l : List UInt8) : nO (l.map Tok.chr) = 0 := by induction l with | nil => rfl | cons c r ih => simp [nO, isO, ih]
theorem chr_nC (l : List UInt8) : nC (l.map Tok.chr) = 0 := by induction l with | nil => rfl | cons c r ih => simp [nC, isC, ih]
def toks (xs : List RunV) : Nat → List Tok
  | 0 => []
  | k + 1 => toks xs k ++ tgT (wasAt xs k) (wasAt xs (k + 1)) ++ (xs.getD k zRun).tx.data.toList.map Tok.chr
theorem toks_bys (xs : List RunV) (k : Nat) : bys (toks xs k) = body xs k := by
  induction k with
  | zero => rfl
  | succ k ih => simp only [toks, body, bys_append, tgT_bys, chr_bys, ih]
theorem toks_chs (xs : List RunV) (k : Nat) : chs (toks xs k) = (catB xs k).data.toList := by
  induction k with
  | zero => rfl
  | succ k ih => simp only [toks, chs_append, tgT_chs, chr_chs, ih, catB, list_append, List.append_nil]
theorem toks_bal (xs : List RunV) (k : Nat) : nO (toks xs k) = nC (toks xs k) + pop (wasAt xs k) := by
  induction k with
  | zero => rfl
  | succ k ih =>
    simp only [toks, nO_append, nC_append, chr_nO, chr_nC]
    have := tgT_bal (wasAt xs k) (wasAt xs (k + 1))
    omega
/-- All tokens of a markup. -/
def all (xs : List RunV) : List Tok := toks xs xs.length ++ tgT (wasAt xs xs.length) 0
theorem all_bys (xs : List RunV) : bys (all xs) = markup xs := by simp only [all, bys_append, toks_bys, tgT_bys, markup]
theorem all_chs (xs : List RunV) : chs (all xs) = (catB xs xs.length).data.toList := by simp only [all, chs_append, toks_chs, tgT_chs, List.append_nil]
theorem all_bal (xs : List RunV) : nO (all xs) = nC (all xs) := by
  simp only [all, nO_append, nC_append]
  have h1 := toks_bal xs xs.length
  have h2 := tgT_bal (wasAt xs xs.length) 0
  have h3 : pop 0 = 0 := by decide
  omega
/-- The tokens so far, the next one, the rest. -/
theorem split_at {T : List Tok} {j : Nat} (h : j < T.length) : ∃ x, T.take (j + 1) = T.take j ++ [x] ∧ T = T.take j ++ (x :: T.drop (j + 1)) := by
  refine ⟨T[j], List.take_succ_eq_append_getElem h, ?_⟩
  conv => lhs; rw [← List.take_append_drop j T, List.drop_eq_getElem_cons h]
theorem at_of {s : ByteArray} {P M Q : List UInt8} (h : s.data.toList = P ++ (M ++ Q)) {d : Nat} {c : UInt8} (hc : M[d]? = some c) : ∃ hb : P.length + d < s.size, s[P.length + d] = c := by
  have hd : d < M.length := (List.getElem?_eq_some_iff.1 hc).1
  have hs : s.size = (P ++ (M ++ Q)).length := size_of h
  have hb : P.length + d < s.size := by rw [hs]; simp; omega
  refine ⟨hb, ?_⟩
  have e : s.data.toList[P.length + d]? = some c := by
    rw [h, List.getElem?_append_right (by omega), show P.length + d - P.length = d by omega, List.getElem?_append_left hd, hc]
  have e2 := (List.getElem?_eq_some_iff.1 e).2
  rw [← e2]
  rfl
theorem tag_ne (t : Nat) : ((tag t).toNat : Int) = 98 ∨ ((tag t).toNat : Int) = 105 ∨ ((tag t).toNat : Int) = 99 := by
  unfold tag
  split
  · left; rfl
  · split
    · right; left; rfl
    · right; right; rfl

end Go.Proofs.Ytmhflifaeplalaa.RnM
