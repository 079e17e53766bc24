/-
  randomLog of the reader: the class of worlds between its rounds: the log so far and the three authors' own views of it, each a slice of valid operations with short texts. Plain facts; no condition.
-/
import Derived.Test.YtlogpbejfifgdaaGreatK6
import Derived.Test.YtlogpbejfifgdaaGreatLhA
import Derived.Test.YtlogpbejfifgdaaGreatK5
namespace Go.Proofs.YtlogpbejfifgdaaGreat.RfA
open Go.RowKit Go.Proofs.YtlogpbejfifgdaaGreat.Base Go.Proofs.YtlogpbejfifgdaaGreat.OpA Go.Proofs.YtlogpbejfifgdaaGreat.OpB Go.Proofs.YtlogpbejfifgdaaGreat.LgA Go.Proofs.YtlogpbejfifgdaaGreat.LgB Go.Proofs.YtlogpbejfifgdaaGreat.LgC Go.Proofs.YtlogpbejfifgdaaGreat.LgF Go.Proofs.YtlogpbejfifgdaaGreat.LgP Go.Proofs.YtlogpbejfifgdaaGreat.LgR Go.Proofs.YtlogpbejfifgdaaGreat.LgZ Go.Proofs.YtlogpbejfifgdaaGreat.LhA Go.Proofs.YtlogpbejfifgdaaGreat.RdA Go.Proofs.YtlogpbejfifgdaaGreat.RdB Go.Proofs.YtlogpbejfifgdaaGreat.RgC Go.Proofs.YtlogpbejfifgdaaGreat.ReA
set_option linter.unusedVariables false

/-- Valid operations with short texts, at most m of them. -/
def Fine (m : Nat) (os : List OpV) : Prop := os.length ≤ m ∧ allTo os os.length = true ∧ ∀ k, k < os.length → (os.getD k zop).tx.size ≤ 8
theorem fine_iff (m : Nat) (os : List OpV) : Fine m os ↔ os.length ≤ m ∧ ∀ o ∈ os, vop o = true ∧ o.tx.size ≤ 8 := by
  unfold Fine allTo
  constructor
  · rintro ⟨h1, h2, h3⟩
    refine ⟨h1, fun o ho => ?_⟩
    obtain ⟨k, hk, rfl⟩ := List.getElem_of_mem ho
    rw [List.all_eq_true] at h2
    have a := h2 k (by simpa using hk)
    have b := h3 k hk
    rw [List.getD_eq_getElem?_getD, List.getElem?_eq_getElem hk] at a b
    exact ⟨a, b⟩
  · rintro ⟨h1, h2⟩
    refine ⟨h1, ?_, fun k hk => ?_⟩
    · rw [List.all_eq_true]
      intro k hk
      have hk' : k < os.length := by simpa using hk
      rw [List.getD_eq_getElem?_getD, List.getElem?_eq_getElem hk']
      exact (h2 _ (List.getElem_mem hk')).1
    · rw [List.getD_eq_getElem?_getD, List.getElem?_eq_getElem hk]
      exact (h2 _ (List.getElem_mem hk)).2
theorem fine_nil (m : Nat) : Fine m [] := (fine_iff m []).2 ⟨by simp, by simp⟩
theorem Fine.mono {m m' : Nat} {os : List OpV} (h : Fine m os) (hm : m ≤ m') : Fine m' os := ⟨Nat.le_trans h.1 hm, h.2⟩
theorem mstep_mem (o : OpV) : ∀ (os : List OpV) (y : OpV), y ∈ mstep o id os → y = o ∨ y ∈ os
  | [], y, h => by simp [mstep] at h; exact .inl h
  | x :: r, y, h => by
      rw [mstep] at h
      split at h
      · rcases List.mem_cons.1 h with h | h
        · exact .inr (by rw [h]; exact List.mem_cons_self)
        · rcases mstep_mem o r y h with h | h
          · exact .inl h
          · exact .inr (List.mem_cons_of_mem _ h)
      · split at h
        · rcases List.mem_cons.1 h with h | h
          · exact .inl h
          · exact .inr h
        · exact .inr h
theorem mstep_len (o : OpV) : ∀ (os : List OpV), (mstep o id os).length ≤ os.length + 1
  | [] => by simp [mstep]
  | x :: r => by
      rw [mstep]
      have := mstep_len o r
      split
      · simp only [List.length_cons]; omega
      · split
        · simp
        · simp
theorem Fine.mstep {m : Nat} {os : List OpV} (h : Fine m os) {o : OpV} (ho : vop o = true) (ht : o.tx.size ≤ 8) : Fine (m + 1) (LgZ.mstep o id os) := by
  rw [fine_iff] at h ⊢
  refine ⟨Nat.le_trans (mstep_len o os) (by omega), fun y hy => ?_⟩
  rcases mstep_mem o os y hy with rfl | hy
  · exact ⟨ho, ht⟩
  · exact h.2 y hy

/-- The slice at a, with capacity c, reads as the log os; its block is neither the reader's nor block S. -/
structure LgE (R S m : Nat) (w : World) (a : Option Addr) (c : Nat) (os : List OpV) : Prop where
  rd : RdO w a os
  le : os.length ≤ c
  fine : Fine m os
  ne : os ≠ [] → ∀ b, blkA a = some b → b < w.heap.size ∧ b ≠ S ∧ b ≠ R
theorem LgE.mono {R S m m' : Nat} {w : World} {a : Option Addr} {c : Nat} {os : List OpV} (h : LgE R S m w a c os) (hm : m ≤ m') : LgE R S m' w a c os := { h with fine := h.fine.mono hm }
theorem LgE.keep {R S m : Nat} {w w' : World} {a : Option Addr} {c : Nat} {os : List OpV} (h : LgE R S m w a c os) (hs : w.heap.size ≤ w'.heap.size) (e : ∀ b, b < w.heap.size → b ≠ S → b ≠ R → w'.heap[b]? = w.heap[b]?) : LgE R S m w' a c os := by
  refine ⟨?_, h.le, h.fine, fun he b hb => ⟨Nat.lt_of_lt_of_le (h.ne he b hb).1 hs, (h.ne he b hb).2⟩⟩
  by_cases he : os = []
  · exact .inl he
  · exact RdO.of_blocks h.rd fun b hb hl => e b hl (h.ne he b hb).2.1 (h.ne he b hb).2.2
def Lg (R S m : Nat) (w : World) (v : Value) : Prop := ∃ a c os, v = .slice a os.length c ∧ LgE R S m w a c os
theorem Lg.mono {R S m m' : Nat} {w : World} {v : Value} (h : Lg R S m w v) (hm : m ≤ m') : Lg R S m' w v := by
  obtain ⟨a, c, os, h1, h2⟩ := h
  exact ⟨a, c, os, h1, h2.mono hm⟩
theorem Lg.keep {R S m : Nat} {w w' : World} {v : Value} (h : Lg R S m w v) (hs : w.heap.size ≤ w'.heap.size) (e : ∀ b, b < w.heap.size → b ≠ S → b ≠ R → w'.heap[b]? = w.heap[b]?) : Lg R S m w' v := by
  obtain ⟨a, c, os, h1, h2⟩ := h
  exact ⟨a, c, os, h1, h2.keep hs e⟩
theorem Lg.own {R S m lo : Nat} {w : World} {v : Value} {os : List OpV} (h : OwnsO w lo v os) (hf : Fine m os) (hS : S < lo) (hR : R < lo) : Lg R S m w v := by
  obtain ⟨a, c, rfl, hr⟩ := ownedO h
  refine ⟨a, c, os, rfl, hr.rd, own_le h, hf, fun he b hb => ?_⟩
  rcases hr with ⟨rfl, _⟩ | ⟨b', rfl, hl, hx⟩
  · cases hb
  · obtain rfl : b' = b := by simpa [blkA] using hb
    exact ⟨hx.lt, by omega, by omega⟩
/-- What insertOp gives is such a log again. -/
theorem LgE.ins {R S m m' : Nat} {w w' : World} {A : Option Addr} {c : Nat} {os ps : List OpV} {a' : Option Addr} {c' : Nat} (hA : LgE R S m w A c os) (hS : S < w.heap.size) (hR : R < w.heap.size) (hf : Fine m' ps) (hc : ps.length ≤ c') (hr : RdO w' a' ps)
    (h : (a' = A ∧ c' = c ∧ ps = os) ∨ OwnsO w' w.heap.size (.slice a' ps.length c') ps) (hb : Below w.heap.size w w') : LgE R S m' w' a' c' ps := by
  rcases h with ⟨rfl, rfl, rfl⟩ | h
  · exact ⟨hr, hc, hf, fun he b hb' => ⟨Nat.lt_of_lt_of_le (hA.ne he b hb').1 hb.size, (hA.ne he b hb').2⟩⟩
  · refine ⟨hr, hc, hf, fun he b hb' => ?_⟩
    obtain ⟨a2, c2, e, hro⟩ := ownedO h
    injection e with e1 _ _
    subst e1
    rcases hro with ⟨rfl, _⟩ | ⟨b', rfl, hl, hx⟩
    · cases hb'
    · obtain rfl : b' = b := by simpa [blkA] using hb'
      exact ⟨hx.lt, by omega, by omega⟩

/-- Between the rounds: the log v; the three views vs in the row S; the reader. -/
structure RL (n R : Nat) (a : Option Addr) (cap : Nat) (zs : List Int) (w0 : World) (S m P : Nat) (la : Option Addr) (lc : Nat) (los : List OpV) (vs : Nat → Value) (w : World) : Prop where
  rs : ∃ p, p ≤ P ∧ RS n w R a cap p zs
  wr : Wr R w0 w
  hn : n ≤ w0.heap.size
  hR : R < n
  S0 : w0.heap.size ≤ S
  row : w.rowIs S 23 3 vs
  l : LgE R S m w la lc los
  ls : ∀ j, j < 3 → Lg R S m w (vs j)
section
variable {n R : Nat} {a : Option Addr} {cap : Nat} {zs : List Int} {w0 : World} {S m P : Nat} {la : Option Addr} {lc : Nat} {los : List OpV} {vs : Nat → Value} {w w' : World}
theorem RL.lt (h : RL n R a cap zs w0 S m P la lc los vs w) : S < w.heap.size := h.row.lt
theorem RL.size (h : RL n R a cap zs w0 S m P la lc los vs w) : n ≤ w.heap.size := Nat.le_trans h.hn h.wr.size
theorem RL.step (h : RL n R a cap zs w0 S m P la lc los vs w) {Q : Nat} (hw : Wr R w w') (hs : ∃ p, p ≤ Q ∧ RS n w' R a cap p zs) : RL n R a cap zs w0 S m Q la lc los vs w' := by
  have h1 := h.hn; have h2 := h.hR; have h3 := h.S0
  exact { h with rs := hs, wr := h.wr.trans hw, row := h.row.of_block (hw.block S h.lt (by omega)), l := h.l.keep hw.size fun b hb _ hne => hw.block b hb hne, ls := fun j hj => (h.ls j hj).keep hw.size fun b hb _ hne => hw.block b hb hne }
theorem RL.below (h : RL n R a cap zs w0 S m P la lc los vs w) (hb : Below w.heap.size w w') : RL n R a cap zs w0 S m P la lc los vs w' := by
  obtain ⟨p, hp, hs⟩ := h.rs
  exact h.step (.of_below hb) ⟨p, hp, hs.below (hb.mono h.size)⟩
theorem RL.alloc (h : RL n R a cap zs w0 S m P la lc los vs w) (o : Obj) : RL n R a cap zs w0 S m P la lc los vs (w.alloc o) := h.below ((Below.refl _ _).alloc (Nat.le_refl _) o)
theorem RL.mono (h : RL n R a cap zs w0 S m P la lc los vs w) {m' Q : Nat} (hm : m ≤ m') (hq : P ≤ Q) : RL n R a cap zs w0 S m' Q la lc los vs w := by
  obtain ⟨p, hp, hs⟩ := h.rs
  exact { h with rs := ⟨p, by omega, hs⟩, l := h.l.mono hm, ls := fun j hj => (h.ls j hj).mono hm }
theorem RL.list (h : RL n R a cap zs w0 S m P la lc los vs w) {la' : Option Addr} {lc' : Nat} {los' : List OpV} (hl : LgE R S m w la' lc' los') : RL n R a cap zs w0 S m P la' lc' los' vs w := { h with l := hl }
theorem RL.put (h : RL n R a cap zs w0 S m P la lc los vs w) {x : Nat} {v' : Value} (hl : Lg R S m w v') : RL n R a cap zs w0 S m P la lc los (fun j => if j = x then v' else vs j) (w.setCell ⟨S, x, none⟩ v') := by
  have h1 := h.hn; have h2 := h.hR; have h3 := h.S0
  have hk : ∀ b, b < w.heap.size → b ≠ S → b ≠ R → (w.setCell ⟨S, x, none⟩ v').heap[b]? = w.heap[b]? := fun b _ hb _ => Below.heap_setCell _ _ _ _ hb
  have hz : w.heap.size ≤ (w.setCell ⟨S, x, none⟩ v').heap.size := by simp
  obtain ⟨p, hp, hs⟩ := h.rs
  refine { rs := ⟨p, hp, hs.setNew (by show n ≤ S; omega) _⟩, wr := ⟨h.wr.os, h.wr.tape, h.wr.output, Nat.le_trans h.wr.size hz, fun k hk' hne => (Below.heap_setCell _ _ _ _ (by show k ≠ S; omega)).trans (h.wr.block k hk' hne)⟩, hn := h1, hR := h2, S0 := h3, row := h.row.set x v', l := h.l.keep hz hk, ls := fun j hj => ?_ }
  · by_cases e : j = x
    · simp only [e, if_true]; exact hl.keep hz hk
    · simp only [e, if_false]; exact (h.ls j hj).keep hz hk
theorem RL.cell (h : RL n R a cap zs w0 S m P la lc los vs w) {x : Nat} (hx : x < 3) : w.cell? ⟨S, x, none⟩ = some (vs x) ∧ w.frozen? ⟨S, x, none⟩ = false := ⟨h.row.cell hx, h.row.frozen x⟩
end

end Go.Proofs.YtlogpbejfifgdaaGreat.RfA
