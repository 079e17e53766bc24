/-
  Slices of structs in general: parts of them, append of one element and of a slice. For slices of at most 2^22 elements.
-/
import Derived.Test.YtdbnflgckcjlcaaGsA
import Derived.Maps.AppendAt
import Derived.WalkSpells
import Derived.Outline
import Derived.BigQuiet
import Derived.Deep.QuietTactic
import Derived.Deep.DrawnRows
import Derived.IntWalk
namespace Go.Proofs.Ytdbnflgckcjlcaa.GsB
open Go.RowKit Go.Proofs.Ytdbnflgckcjlcaa.Base Go.Proofs.Ytdbnflgckcjlcaa.GsA
set_option linter.unusedVariables false

/-- An element's type and its slice's type. -/
structure Ty {α : Type} (E : Elt α) where
  T : TypeId
  S : TypeId
  zero : Value
  bytes : Nat
  und : Try.prog.underlying S = some (.slice T)
  elem : Try.prog.underlying S = some (.slice (Try.prog.elem S))
  info : (Try.prog.info? T).map (fun i => (i.zero, i.size, i.bytes)) = some (some zero, E.n, bytes)
  hz : zero.cells.size = E.n
  hs : bytes ≤ 1024

section
variable {α : Type} {E : Elt α} (D : Ty E)
theorem getD_drop (os : List α) (k i : Nat) : (os.drop k).getD i E.z = os.getD (k + i) E.z := by simp [List.getD_eq_getElem?_getD, List.getElem?_drop]
theorem getD_take (os : List α) (k i : Nat) (h : i < k) : (os.take k).getD i E.z = os.getD i E.z := by simp [List.getD_eq_getElem?_getD, h]
theorem Ty.size (w : World) : (sizeOf D.T).run Try.prog w = .ok E.n w := by
  obtain ⟨i0, hi, _, hz1, _⟩ := info_parts D.info
  simp [sizeOf, typeInfo, hi, hz1]
theorem run_sliceLo (A : Option Addr) (n c k : Nat) (hk : k ≤ n) (w : World) :
    (Instr.sliceAt D.S (.slice A n c) (some (.int .i64 (k : Int))) none none).run Try.prog w = .ok (.slice (if c = k then A else A.map (·.add (k * E.n))) (n - k) (c - k)) w := by
  rw [run_sliceAt_slice w _ _ _ _ _ D.elem]
  have hs := D.size w
  simp [Instr.slice, run_underlying D.und, Instr.sliceBounds, go_sem, hk, hs]
theorem run_sliceHi (A : Option Addr) (n c k : Nat) (hk : k ≤ c) (w : World) :
    (Instr.sliceAt D.S (.slice A n c) none (some (.int .i64 (k : Int))) none).run Try.prog w = .ok (.slice (if c = 0 then A else A.map (·.add (0 * E.n))) k c) w := by
  rw [run_sliceAt_slice w _ _ _ _ _ D.elem]
  have hs := D.size w
  simp [Instr.slice, run_underlying D.und, Instr.sliceBounds, go_sem, hk, hs]
theorem rdDrop {w : World} {A : Option Addr} {os : List α} {c k : Nat} (h : RdG E w A os) (hk : k ≤ os.length) (hc : os.length ≤ c) : RdG E w (if c = k then A else A.map (·.add (k * E.n))) (os.drop k) := by
  by_cases e : k = os.length
  · left; rw [e]; simp
  · rw [if_neg (by omega)]
    rcases h with rfl | ⟨b, off, rfl, hr⟩
    · left; simp
    · refine .inr ⟨b, off + k * E.n, by rw [Option.map_some, Addr.add_mid], fun i hi => ?_⟩
      rw [getD_drop, Nat.add_assoc, ← Nat.add_mul]
      exact hr (k + i) (by simp at hi; omega)
theorem rdTake {w : World} {A : Option Addr} {os : List α} {c k : Nat} (h : RdG E w A os) (hk : k ≤ os.length) : RdG E w (if c = 0 then A else A.map (·.add (0 * E.n))) (os.take k) := by
  rcases h with rfl | ⟨b, off, rfl, hr⟩
  · left; simp
  · refine .inr ⟨b, off, by simp [Addr.add], fun i hi => ?_⟩
    simp at hi
    rw [getD_take _ _ _ (by omega)]
    exact hr i (by omega)

/-- xs[k:]. -/
theorem sliceLo {ops : Array Oper} {rest : List Oper} {op : Oper} {a : Act} {w : World} {Q : Exit → Act → World → Prop} (hgd : op.guard = none) (x y : Operand) (ho : op.op = .slice D.S x (some y) none none)
    {A : Option Addr} {c k : Nat} {os : List α} {m : Int} (hx : a.eval x = .slice A os.length c) (hy : a.eval y = .int .i64 m) (hm : m = (k : Int)) (hk : k ≤ os.length) (hc : os.length ≤ c) (hr : RdG E w A os)
    (K : ∀ A' c', RdG E w A' (os.drop k) → wpList Try.prog ops Q rest (a.put op.dst (.slice A' (os.length - k) c')) w) : wpList Try.prog ops Q (op :: rest) a w :=
  wpList_plain hgd fun _ hK => by
    subst hm
    unfold Oper.wp execOp
    simp only [ho, hx, hy, Option.map_some, Option.map_none, Sem.run_bind, Sem.run_pure, Result.andThen_ok, run_sliceLo D A os.length c k hk w]
    exact hK _ _ (K _ (c - k) (rdDrop (c := c) hr hk hc))
/-- xs[:k]. -/
theorem sliceHi {ops : Array Oper} {rest : List Oper} {op : Oper} {a : Act} {w : World} {Q : Exit → Act → World → Prop} (hgd : op.guard = none) (x y : Operand) (ho : op.op = .slice D.S x none (some y) none)
    {A : Option Addr} {c k : Nat} {os : List α} {m : Int} (hx : a.eval x = .slice A os.length c) (hy : a.eval y = .int .i64 m) (hm : m = (k : Int)) (hk : k ≤ os.length) (hc : os.length ≤ c) (hr : RdG E w A os)
    (K : ∀ A' c', RdG E w A' (os.take k) → wpList Try.prog ops Q rest (a.put op.dst (.slice A' k c')) w) : wpList Try.prog ops Q (op :: rest) a w :=
  wpList_plain hgd fun _ hK => by
    subst hm
    unfold Oper.wp execOp
    simp only [ho, hx, hy, Option.map_some, Option.map_none, Sem.run_bind, Sem.run_pure, Result.andThen_ok, run_sliceHi D A os.length c k (by omega) w]
    exact hK _ _ (K _ c (rdTake (c := c) hr hk))

/-- The slice value v is of the call's own (from block lo on) and holds the elements os. -/
def OwnsG (w : World) (lo : Nat) (v : Value) (os : List α) : Prop := w.ownsRow lo D.T E.n v os.length (flat E os)
variable {D}
theorem ownsG_nil (w : World) (lo : Nat) : OwnsG D w lo (.slice none 0 0) [] := World.ownsRow_nil _ _ _ _
theorem ownsG_empty (w : World) (lo : Nat) (hl : lo ≤ w.heap.size) : OwnsG D (w.alloc (.cells #[] D.T)) lo (.slice (some ⟨w.heap.size, 0, none⟩) 0 0) [] :=
  ⟨by simp [flat], .inr ⟨w.heap.size, 0, #[], rfl, hl, heap_alloc_new _ _, Nat.le_refl _, Nat.zero_le _, by simp, by simp [flat]⟩⟩
theorem OwnsG.below {w w' : World} {lo : Nat} {v : Value} {os : List α} (h : OwnsG D w lo v os) (hb : Below w.heap.size w w') : OwnsG D w' lo v os := by
  unfold OwnsG at h ⊢
  exact h.kept (row := none) ⟨hb.os, hb.tape, hb.output, hb.size, fun k hk _ => hb.block k hk⟩ (by cases v.ownBlock <;> simp)
theorem OwnsG.row {w : World} {lo : Nat} {v : Value} {os : List α} (h : OwnsG D w lo v os) : ∃ a c, v = .slice a os.length c ∧ RowG E D.T lo w a c os.length (fun i => os.getD i E.z) := ownedG h
theorem OwnsG.le {w : World} {lo : Nat} {a : Option Addr} {n c : Nat} {os : List α} (h : OwnsG D w lo (.slice a n c) os) : os.length ≤ c := by
  rcases h.2 with ⟨h, h0⟩ | ⟨g, cap, cur, e, _, _, hn, _⟩
  · omega
  · injection e with _ _ e
    omega
theorem OwnsG.lower {w : World} {lo lo' : Nat} {v : Value} {os : List α} (h : OwnsG D w lo v os) (hl : lo' ≤ lo) : OwnsG D w lo' v os := by
  refine ⟨h.1, ?_⟩
  rcases h.2 with h | ⟨g, cap, cur, e, hb, r⟩
  · exact .inl h
  · exact .inr ⟨g, cap, cur, e, Nat.le_trans hl hb, r⟩
theorem append_none (w : World) (lo : Nat) (v : Value) (os : List α) (hown : OwnsG D w lo v os) (c : Nat) (ty : TypeId) : (Builtin.append_ #[D.S, D.S] ty #[v, .slice none 0 c]).run Try.prog w = .ok v w := by
  obtain ⟨i0, hi, _, _, _⟩ := info_parts D.info
  rcases hown.2 with ⟨rfl, h0⟩ | ⟨g, cap, cur, rfl, _, _, hnc, _⟩
  · simp [Builtin.append_, run_underlying D.und, sizeOf, typeInfo, hi, Builtin.lenOf, Builtin.firstCells]
  · simp [Builtin.append_, run_underlying D.und, sizeOf, typeInfo, hi, Builtin.lenOf, Builtin.firstCells, hnc, storeCells]
theorem rd_cells {w : World} {ad : Addr} {os : List α} (h : RdG E w (some ad) os) : ∀ j u, (flat E os)[j]? = some u → w.cell? (ad.add j) = some u := by
  intro j u hu
  rcases h with rfl | ⟨b, off, e, hr⟩
  · simp [flat] at hu
  · obtain rfl := Option.some.inj e
    have hn := E.hn
    have hj : j < os.length * E.n := by have := (List.getElem?_eq_some_iff.1 hu).1; rwa [flat_len] at this
    have hk : j / E.n < os.length := (Nat.div_lt_iff_lt_mul hn).2 hj
    have e2 : j = j / E.n * E.n + j % E.n := by rw [Nat.mul_comm]; exact (Nat.div_add_mod j E.n).symm
    rw [e2, flat_get E os _ _ hk (Nat.mod_lt _ hn)] at hu
    have := hr _ hk _ _ hu
    rw [Addr.add_mid]
    rw [e2, ← Nat.add_assoc]
    exact this
theorem bytes_ok {D : Ty E} {n m : Nat} (h : n + m ≤ 4194304) : (n + m) * D.bytes ≤ 140737488355328 :=
  Nat.le_trans (Nat.mul_le_mul h D.hs) (by decide)

theorem grown_alloc {w w' : World} {o : Obj} {r : Option Nat} (h : (w.alloc o).grownBy w' r) : w.grownBy w' r := by
  have B : Below w.heap.size w (w.alloc o) := (Below.refl _ _).alloc (Nat.le_refl _) _
  exact ⟨h.os.trans B.os, h.tape.trans B.tape, h.output.trans B.output, Nat.le_trans B.size h.size, fun k hk hr => (h.block k (Nat.lt_of_lt_of_le hk B.size) hr).trans (B.block k hk)⟩

/-- append of a slice. -/
theorem appendGs {ops : Array Oper} {rest : List Oper} {op : Oper} {a : Act} {w0 : World} {Q : Exit → Act → World → Prop} (hgd : op.guard = none) (s x : Operand)
    (ho : op.op = .call { callee := .builtin .append, args := #[s, x], argTypes := #[D.S, D.S] }) {lo n : Nat} {v : Value} {os ps : List α} {A : Option Addr} {c : Nat}
    (hs : a.eval s = v) (hx : a.eval x = .slice A n c) (hn : n = ps.length) (hown : OwnsG D w0 lo v os) (hr : RdG E w0 A ps) (hlen : os.length + ps.length ≤ 4194304) (hlo : lo ≤ w0.heap.size)
    (k : ∀ v' w', OwnsG D w' lo v' (os ++ ps) → Below lo w0 w' → lo ≤ w'.heap.size → w0.grownBy w' v.ownBlock → wpList Try.prog ops Q rest (a.put op.dst v') w') :
    wpList Try.prog ops Q (op :: rest) a w0 := by
  subst hn
  obtain ⟨i0, hi, hz0, hz1, hz2⟩ := info_parts D.info
  rcases A with _ | ad
  · have h0 : ps = [] := by
      rcases hr with h | ⟨b, off, e, _⟩
      · exact h
      · cases e
    subst h0
    refine wpList_plain hgd fun _ hK => ?_
    unfold Oper.wp execOp
    simp only [ho, resolve, invoke, builtin, Sem.run_bind, Sem.run_pure, Result.andThen_ok, List.map_toArray, List.map_cons, List.map_nil, hs, hx, List.length_nil, append_none w0 lo v os hown c]
    exact hK _ _ (k v w0 (by rw [List.append_nil]; exact hown) (Below.refl _ _) hlo (World.grownBy.refl _ _))
  · refine wpList_append_own _ hgd s x D.S ho lo D.T i0 _ E.n D.bytes D.und hi hz0 hz1 hz2 D.hz E.hn v os.length (flat E os) hs hown ad ps.length c (flat E ps) hx (flat_len E ps) (rd_cells hr) (flat_one' E ps) ?_ ?_ ?_ ?_
    · unfold maxLen; omega
    · exact bytes_ok hlen
    · exact hlo
    · intro v' w' h1 h2 _
      refine k v' w' ?_ ((Below.refl lo w0).grown h2 hlo (fun k hk => ?_)) (Nat.le_trans hlo h2.size) h2
      · unfold OwnsG
        rw [List.length_append, flat_append]
        exact h1
      · exact (World.ownsRow.lt (show w0.ownsRow lo D.T E.n v os.length (flat E os) from hown) k hk).1
theorem newsG (w0 : World) (x : α) (C : Array Value) (T : TypeId) (hC : C.toList = E.L x) : ∀ j u, (E.L x)[j]? = some u → (w0.alloc (.cells C T)).cell? ((⟨w0.heap.size, 0, none⟩ : Addr).add j) = some u := by
  intro j u hu
  rw [Addr.add_mid, Nat.zero_add, World.cell?_alloc_at _ _ _ _ rfl]
  rw [← hu, ← hC]
  simp
/-- append of one element that lies in a new block. -/
theorem appendG {ops : Array Oper} {rest : List Oper} {op : Oper} {a : Act} {w0 : World} {Q : Exit → Act → World → Prop} (hgd : op.guard = none) (s x : Operand)
    (ho : op.op = .call { callee := .builtin .append, args := #[s, x], argTypes := #[D.S, D.S] }) {lo : Nat} {v : Value} {os : List α} {y : α} {c : Nat} {C : Array Value} {TT : TypeId}
    (hs : a.eval s = v) (hx : a.eval x = .slice (some ⟨w0.heap.size, 0, none⟩) 1 c) (hC : C.toList = E.L y) (hown : OwnsG D w0 lo v os) (hlen : os.length ≤ 4194303) (hlo : lo ≤ w0.heap.size)
    (k : ∀ v' w', OwnsG D w' lo v' (os ++ [y]) → Below lo w0 w' → lo ≤ w'.heap.size → w0.grownBy w' v.ownBlock → wpList Try.prog ops Q rest (a.put op.dst v') w') :
    wpList Try.prog ops Q (op :: rest) a (w0.alloc (.cells C TT)) := by
  obtain ⟨i0, hi, hz0, hz1, hz2⟩ := info_parts D.info
  refine wpList_append_own _ hgd s x D.S ho lo D.T i0 _ E.n D.bytes D.und hi hz0 hz1 hz2 D.hz E.hn v os.length (flat E os) hs (World.ownsRow.alloc hown _) ⟨w0.heap.size, 0, none⟩ 1 c (E.L y) hx (by rw [E.len, Nat.one_mul]) (newsG w0 y C TT hC) ?_ ?_ ?_ ?_ ?_
  · exact E.one y
  · unfold maxLen; omega
  · exact bytes_ok (by omega)
  · simp; omega
  · intro v' w' h1 h2 _
    refine k v' w' ?_ ((((Below.refl lo w0).alloc hlo _)).grown h2 (by simp; omega) (fun k hk => ?_)) (Nat.le_trans hlo (Nat.le_trans (by simp) h2.size)) ?_
    · unfold OwnsG
      rw [List.length_append, flat_append, flat_one]
      exact h1
    · exact (World.ownsRow.lt (show w0.ownsRow lo D.T E.n v os.length (flat E os) from hown) k hk).1
    · exact grown_alloc h2
end

/-- A drawn region walked in the order of its text, in every world of a class. -/
theorem regionL {P : Program} {C : World → Prop} {id : Nat} {Q : Exit → Act → World → Prop} {a : Act} {w : World} {l : List Oper} (hm : P.follows .mixedOrders = true) (hB : Region.lexB .any l.toArray = true)
    (hC : C w.drew) (h : wpQuiet P l.toArray C (fun a' => ∀ w', C w' → Q .normal a' w') l a) : (Code.region id l.toArray true).wp P Q a w :=
  wp_region_quiet (C := C) hm hB hC (by simpa using h)
end Go.Proofs.Ytdbnflgckcjlcaa.GsB
