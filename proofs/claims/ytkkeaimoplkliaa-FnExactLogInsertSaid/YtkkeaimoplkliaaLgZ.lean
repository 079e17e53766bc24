/-
  Parts of slices of operations, and append of a slice of operations; slices.Clone. Lists: the merge of two logs. For slices of at most 2^20 operations.
-/
import Derived.Test.YtkkeaimoplkliaaLgP
import Derived.Test.YtkkeaimoplkliaaLgQ
import Derived.WalkSpells
namespace Go.Proofs.Ytkkeaimoplkliaa.LgZ
open Go.RowKit Go.Proofs.Ytkkeaimoplkliaa.Base Go.Proofs.Ytkkeaimoplkliaa.St Go.Proofs.Ytkkeaimoplkliaa.StB Go.Proofs.Ytkkeaimoplkliaa.OpA Go.Proofs.Ytkkeaimoplkliaa.OpB Go.Proofs.Ytkkeaimoplkliaa.LgA Go.Proofs.Ytkkeaimoplkliaa.LgB Go.Proofs.Ytkkeaimoplkliaa.LgC Go.Proofs.Ytkkeaimoplkliaa.LgF Go.Proofs.Ytkkeaimoplkliaa.LgP Go.Proofs.Ytkkeaimoplkliaa.LgQ
set_option linter.unusedVariables false

theorem getD_drop (os : List OpV) (k i : Nat) : (os.drop k).getD i zop = os.getD (k + i) zop := by simp [List.getD_eq_getElem?_getD, List.getElem?_drop]
theorem getD_take (os : List OpV) (k i : Nat) (h : i < k) : (os.take k).getD i zop = os.getD i zop := by simp [List.getD_eq_getElem?_getD, h]

theorem sizeOf12 (w : World) : (sizeOf 30).run Try.prog w = .ok 12 w := by
  obtain ⟨i0, hi, _, hz1, _⟩ := info_parts info104
  simp [sizeOf, typeInfo, hi, hz1]
theorem elem36 : Try.prog.underlying 36 = some (.slice (Try.prog.elem 36)) := by kernel_rfl
theorem run_sliceLo (A : Option Addr) (n c k : Nat) (hk : k ≤ n) (w : World) :
    (Instr.sliceAt 36 (.slice A n c) (some (.int .i64 (k : Int))) none none).run Try.prog w = .ok (.slice (if c = k then A else A.map (·.add (k * 12))) (n - k) (c - k)) w := by
  rw [run_sliceAt_slice w _ _ _ _ _ elem36]
  simp [Instr.slice, run_underlying Try.underlying36, Instr.sliceBounds, go_sem, hk]
theorem run_sliceHi (A : Option Addr) (n c k : Nat) (hk : k ≤ c) (w : World) :
    (Instr.sliceAt 36 (.slice A n c) none (some (.int .i64 (k : Int))) none).run Try.prog w = .ok (.slice (if c = 0 then A else A.map (·.add (0 * 12))) k c) w := by
  rw [run_sliceAt_slice w _ _ _ _ _ elem36]
  simp [Instr.slice, run_underlying Try.underlying36, Instr.sliceBounds, go_sem, hk]

theorem rdDrop {w : World} {A : Option Addr} {os : List OpV} {c k : Nat} (h : RdO w A os) (hk : k ≤ os.length) (hc : os.length ≤ c) : RdO w (if c = k then A else A.map (·.add (k * 12))) (os.drop k) := by
  by_cases e : k = os.length
  · left; rw [e]; simp
  · rw [if_neg (by omega)]
    rcases h with rfl | ⟨b, off, rfl, hr⟩
    · left; simp
    · refine .inr ⟨b, off + k * 12, by rw [Option.map_some, Addr.add_mid], fun i hi => ?_⟩
      rw [getD_drop, show off + k * 12 + i * 12 = off + (k + i) * 12 by omega]
      exact hr (k + i) (by simp at hi; omega)
theorem rdTake {w : World} {A : Option Addr} {os : List OpV} {c k : Nat} (h : RdO w A os) (hk : k ≤ os.length) : RdO w (if c = 0 then A else A.map (·.add (0 * 12))) (os.take k) := by
  rcases h with rfl | ⟨b, off, rfl, hr⟩
  · left; simp
  · refine .inr ⟨b, off, by simp [Addr.add], fun i hi => ?_⟩
    simp at hi
    rw [getD_take _ _ _ (by omega)]
    exact hr i (by omega)

/-- log[k:]. -/
theorem sliceLo {ops : Array Oper} {rest : List Oper} {op : Oper} {a : Act} {w : World} {Q : Exit → Act → World → Prop} (hgd : op.guard = none) (x y : Operand) (ho : op.op = .slice 36 x (some y) none none)
    {A : Option Addr} {c k : Nat} {os : List OpV} (hx : a.eval x = .slice A os.length c) (hy : a.eval y = .int .i64 (k : Int)) (hk : k ≤ os.length) (hc : os.length ≤ c) (hr : RdO w A os)
    (K : ∀ A' c', RdO w A' (os.drop k) → wpList Try.prog ops Q rest (a.put op.dst (.slice A' (os.drop k).length c')) w) : wpList Try.prog ops Q (op :: rest) a w :=
  wpList_plain hgd fun _ hK => by
    unfold Oper.wp execOp
    simp only [ho, hx, hy, Option.map_some, Option.map_none, Sem.run_bind, Sem.run_pure, Result.andThen_ok, run_sliceLo A os.length c k hk w]
    have := K _ (c - k) (rdDrop (c := c) hr hk hc)
    rw [List.length_drop] at this
    exact hK _ _ this
/-- log[:k]. -/
theorem sliceHi {ops : Array Oper} {rest : List Oper} {op : Oper} {a : Act} {w : World} {Q : Exit → Act → World → Prop} (hgd : op.guard = none) (x y : Operand) (ho : op.op = .slice 36 x none (some y) none)
    {A : Option Addr} {c k : Nat} {os : List OpV} (hx : a.eval x = .slice A os.length c) (hy : a.eval y = .int .i64 (k : Int)) (hk : k ≤ os.length) (hc : os.length ≤ c) (hr : RdO w A os)
    (K : ∀ A' c', RdO w A' (os.take k) → wpList Try.prog ops Q rest (a.put op.dst (.slice A' (os.take k).length c')) w) : wpList Try.prog ops Q (op :: rest) a w :=
  wpList_plain hgd fun _ hK => by
    unfold Oper.wp execOp
    simp only [ho, hx, hy, Option.map_some, Option.map_none, Sem.run_bind, Sem.run_pure, Result.andThen_ok, run_sliceHi A os.length c k (by omega) w]
    have := K _ c (rdTake (c := c) hr hk)
    rw [List.length_take, Nat.min_eq_left hk] at this
    exact hK _ _ this

theorem append_none (w : World) (lo : Nat) (v : Value) (os : List OpV) (hown : OwnsO w lo v os) (c : Nat) (ty : TypeId) : (Builtin.append_ #[36, 36] ty #[v, .slice none 0 c]).run Try.prog w = .ok v w := by
  obtain ⟨i0, hi, _, _, _⟩ := info_parts info104
  rcases hown.2 with ⟨rfl, h0⟩ | ⟨g, cap, cur, rfl, _, _, hnc, _⟩
  · simp [Builtin.append_, run_underlying Try.underlying36, sizeOf, typeInfo, hi, Builtin.lenOf, Builtin.firstCells]
  · simp [Builtin.append_, run_underlying Try.underlying36, sizeOf, typeInfo, hi, Builtin.lenOf, Builtin.firstCells, hnc, storeCells]
theorem rd_cells {w : World} {ad : Addr} {os : List OpV} (h : RdO w (some ad) os) : ∀ j u, (flat os)[j]? = some u → w.cell? (ad.add j) = some u := by
  intro j u hu
  rcases h with rfl | ⟨b, off, e, hr⟩
  · simp [flat] at hu
  · obtain rfl := Option.some.inj e
    have hj : j < os.length * 12 := by have := (List.getElem?_eq_some_iff.1 hu).1; rwa [flat_len] at this
    have hk : j / 12 < os.length := by omega
    have e2 : j = j / 12 * 12 + j % 12 := by omega
    rw [e2, flat_get os _ _ hk (by omega)] at hu
    have := hr _ hk _ _ hu
    rw [Addr.add_mid]
    rw [show off + j = off + j / 12 * 12 + j % 12 by omega]
    exact this

/-- append of a slice of operations. -/
theorem appendOs {ops : Array Oper} {rest : List Oper} {op : Oper} {a : Act} {w0 : World} {Q : Exit → Act → World → Prop} (hgd : op.guard = none) (s x : Operand)
    (ho : op.op = .call { callee := .builtin .append, args := #[s, x], argTypes := #[36, 36] }) {lo : Nat} {v : Value} {os ps : List OpV} {A : Option Addr} {c : Nat}
    (hs : a.eval s = v) (hx : a.eval x = .slice A ps.length c) (hown : OwnsO w0 lo v os) (hr : RdO w0 A ps) (hlen : os.length + ps.length ≤ 4194304) (hlo : lo ≤ w0.heap.size)
    (k : ∀ v' w', OwnsO w' lo v' (os ++ ps) → Below lo w0 w' → lo ≤ w'.heap.size → wpList Try.prog ops Q rest (a.put op.dst v') w') :
    wpList Try.prog ops Q (op :: rest) a w0 := by
  obtain ⟨i0, hi, hz0, hz1, hz2⟩ := info_parts info104
  rcases A with _ | ad
  · have h0 : ps = [] := by
      rcases hr with h | ⟨b, off, e, _⟩
      · exact h
      · cases e
    subst h0
    refine wpList_plain hgd fun _ hK => ?_
    unfold Oper.wp execOp
    simp only [ho, resolve, invoke, builtin, Sem.run_bind, Sem.run_pure, Result.andThen_ok, List.map_toArray, List.map_cons, List.map_nil, hs, hx, List.length_nil, append_none w0 lo v os hown c]
    exact hK _ _ (k v w0 (by rw [List.append_nil]; exact hown) (Below.refl _ _) hlo)
  · refine wpList_append_own _ hgd s x 36 ho lo 30 i0 _ 12 104 Try.underlying36 hi hz0 hz1 hz2 rfl (by omega) v os.length (flat os) hs hown ad ps.length c (flat ps) hx (flat_len ps) (rd_cells hr) (flat_one' ps) ?_ ?_ ?_ ?_
    · unfold maxLen; omega
    · omega
    · exact hlo
    · intro v' w' h1 h2 _
      refine k v' w' ?_ ((Below.refl lo w0).grown h2 hlo (fun k hk => ?_)) (Nat.le_trans hlo h2.size)
      · unfold OwnsO
        rw [List.length_append, flat_append]
        exact h1
      · exact (World.ownsRow.lt (show w0.ownsRow lo 30 12 v os.length (flat os) from hown) k hk).1

/-! ### Lists -/
def lt (o p : OpV) : Bool := slt o.i o.j p.i p.j
theorem lt_trans {o p q : OpV} (h : lt o p = true) (h' : lt p q = true) : lt o q = true := by
  simp [lt, slt] at h h' ⊢
  omega
/-- What one operation e of the second log does to the first, k being what comes behind. -/
def mstep (e : OpV) (k : List OpV → List OpV) : List OpV → List OpV
  | [] => e :: k []
  | x :: r => if lt x e then x :: mstep e k r else if lt e x then e :: k (x :: r) else k (x :: r)
/-- The union of two logs. -/
def uni : List OpV → List OpV → List OpV
  | [], s => s
  | e :: t, s => mstep e (uni t) s
/-- Sorted. -/
def srt : List OpV → Prop
  | [] => True
  | a :: r => (∀ x, r.head? = some x → lt a x = true) ∧ srt r
theorem srt_all : ∀ (r : List OpV) (a : OpV), srt (a :: r) → ∀ x ∈ r, lt a x = true
  | [], a, _, x, hx => by cases hx
  | b :: r, a, h, x, hx => by
    have hab := h.1 b rfl
    rcases List.mem_cons.1 hx with rfl | hx
    · exact hab
    · exact lt_trans hab (srt_all r b h.2 x hx)
theorem uni_head (t : List OpV) (x : OpV) (r : List OpV) (h : ∀ y ∈ t, lt x y = true) : uni t (x :: r) = x :: uni t r := by
  cases t with
  | nil => rfl
  | cons y t => show mstep y (uni t) (x :: r) = x :: mstep y (uni t) r; rw [mstep, if_pos (h y (by simp))]
theorem uni_mstep (t : List OpV) (e : OpV) (h : ∀ y ∈ t, lt e y = true) : ∀ s, uni t (mstep e id s) = mstep e (uni t) s
  | [] => uni_head t e [] h
  | x :: r => by
    unfold mstep
    by_cases h1 : lt x e = true
    · rw [if_pos h1, if_pos h1, uni_head t x _ (fun y hy => lt_trans h1 (h y hy)), uni_mstep t e h r]
    · rw [if_neg h1, if_neg h1]
      by_cases h2 : lt e x = true
      · rw [if_pos h2, if_pos h2]; exact uni_head t e _ h
      · rw [if_neg h2, if_neg h2]; rfl
theorem foldl_uni : ∀ (t : List OpV), srt t → ∀ s, t.foldl (fun s e => mstep e id s) s = uni t s
  | [], _, s => rfl
  | e :: t, h, s => by
    rw [List.foldl_cons, foldl_uni t h.2, uni_mstep t e (fun y hy => srt_all t e h y hy)]
    rfl
theorem mstep_len (e : OpV) (k : List OpV → List OpV) (n : Nat) (hk : ∀ s, (k s).length ≤ s.length + n) : ∀ s, (mstep e k s).length ≤ s.length + (n + 1)
  | [] => by have := hk []; simp [mstep] at this ⊢; omega
  | x :: r => by
    have h1 := mstep_len e k n hk r
    have h2 := hk (x :: r)
    unfold mstep
    split
    · simp; omega
    · split
      · simp at h2 ⊢; omega
      · simp at h2 ⊢; omega
theorem uni_len : ∀ (t s : List OpV), (uni t s).length ≤ s.length + t.length
  | [], s => by simp [uni]
  | e :: t, s => by
    show (mstep e (uni t) s).length ≤ _
    have := mstep_len e (uni t) t.length (uni_len t) s
    simpa using this
/-- A valid log is sorted. -/
theorem srt_of {os : List OpV} (h : ascTo os (os.length - 1) = true) : srt os := by
  have hh : ∀ k, k + 1 < os.length → lessAt os k = true := fun k hk => by
    unfold ascTo at h
    rw [List.all_eq_true] at h
    exact h k (by simp; omega)
  clear h
  induction os with
  | nil => trivial
  | cons a r ih =>
    refine ⟨fun x hx => ?_, ih fun k hk => ?_⟩
    · cases r with
      | nil => cases hx
      | cons b r' =>
        obtain rfl : b = x := by simpa using hx
        exact hh 0 (by simp)
    · exact hh (k + 1) (by simpa using hk)

end Go.Proofs.Ytkkeaimoplkliaa.LgZ
