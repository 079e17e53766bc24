/-
  DrawValidOp of the reader: an operation with a short text; nothing that was there is written. What a valid operation refers to. For every slice of bytes; for every operation.
-/
import Derived.Test.YtlogpbejfifgdaaK4
import Derived.Test.YtlogpbejfifgdaaMoG
import Derived.Outline
namespace Go.Proofs.Ytlogpbejfifgdaa.OcA
open Go.RowKit Go.Proofs.Ytlogpbejfifgdaa.Base Go.Proofs.Ytlogpbejfifgdaa.StB Go.Proofs.Ytlogpbejfifgdaa.OpA Go.Proofs.Ytlogpbejfifgdaa.OpB Go.Proofs.Ytlogpbejfifgdaa.LgA Go.Proofs.Ytlogpbejfifgdaa.LgB Go.Proofs.Ytlogpbejfifgdaa.LgC Go.Proofs.Ytlogpbejfifgdaa.LgF Go.Proofs.Ytlogpbejfifgdaa.LgN Go.Proofs.Ytlogpbejfifgdaa.RdA Go.Proofs.Ytlogpbejfifgdaa.RdB Go.Proofs.Ytlogpbejfifgdaa.RdC Go.Proofs.Ytlogpbejfifgdaa.RdD Go.Proofs.Ytlogpbejfifgdaa.RgC Go.Proofs.Ytlogpbejfifgdaa.ReA Go.Proofs.Ytlogpbejfifgdaa.MoG
set_option linter.unusedVariables false

theorem wr12 (w : World) (k : Nat) (v0 v1 v2 v3 v4 v5 v6 v7 v8 v9 v10 v11 : Value) : Wr k w ((((((((((((w.setCell ⟨k, 0, none⟩ v0).setCell ⟨k, 1, none⟩ v1).setCell ⟨k, 2, none⟩ v2).setCell ⟨k, 3, none⟩ v3).setCell ⟨k, 4, none⟩ v4).setCell ⟨k, 5, none⟩ v5).setCell ⟨k, 6, none⟩ v6).setCell ⟨k, 7, none⟩ v7).setCell ⟨k, 8, none⟩ v8).setCell ⟨k, 9, none⟩ v9).setCell ⟨k, 10, none⟩ v10).setCell ⟨k, 11, none⟩ v11) := (((((((((((((Wr.refl k w).trans (Wr.set _ k 0 v0)).trans (Wr.set _ k 1 v1)).trans (Wr.set _ k 2 v2)).trans (Wr.set _ k 3 v3)).trans (Wr.set _ k 4 v4)).trans (Wr.set _ k 5 v5)).trans (Wr.set _ k 6 v6)).trans (Wr.set _ k 7 v7)).trans (Wr.set _ k 8 v8)).trans (Wr.set _ k 9 v9)).trans (Wr.set _ k 10 v10)).trans (Wr.set _ k 11 v11))
/-- An operation goes into the result's box. -/
theorem boxRes {ops : Array Oper} {rest : List Oper} {op : Oper} {a : Act} {w : World} {Q : Exit → Act → World → Prop} (hgd : op.guard = none) (x y : Operand) (ho : op.op = .store 27 x y) {k : Nat} {o z : OpV} (hx : a.eval x = .pointer (some ⟨k, 0, none⟩)) (hy : a.eval y = .agg #[.int .i64 o.i, .int .i64 o.j, .int .i64 o.k, .int .i64 o.ts, .int .i64 o.ta, .int .i64 o.fs, .int .i64 o.fa, .int .i64 o.ns, .int .i64 o.na, .int .i64 o.v, .bool o.en, .string o.tx]) (h : Box w k z)
    (K : ∀ w', C12 w' k 0 o → Wr k w w' → wpList Try.prog ops Q rest (a.put op.dst undef) w') : wpList Try.prog ops Q (op :: rest) a w := by
  refine storeI hgd x y ho hx hy (h.there 0 12 (by omega)) (K _ ?_ ?_)
  · obtain ⟨g, hr, hg⟩ := h.row
    have hr2 := rowIs_setCells (opL o) 0 w g hr
    have e : (w.setCells k 0 (opL o)).rangeAt k 0 (opL o) := by
      intro j v hv
      have hj : j < 12 := by
        have := (List.getElem?_eq_some_iff.1 hv).1
        rwa [opL_len] at this
      rw [hr2.cell (i := 0 + j) (by omega), if_pos (by rw [opL_len]; omega), List.getD_eq_getElem?_getD, show 0 + j - 0 = j by omega, hv]
      rfl
    exact c12 e
  · exact wr12 w k _ _ _ _ _ _ _ _ _ _ _ _

/-- An operation that is drawn. -/
def DrawnO (w : World) (e : Ending) (w' : World) : Prop :=
  (∃ o : OpV, e = .returned (.agg #[.int .i64 o.i, .int .i64 o.j, .int .i64 o.k, .int .i64 o.ts, .int .i64 o.ta, .int .i64 o.fs, .int .i64 o.fa, .int .i64 o.ns, .int .i64 o.na, .int .i64 o.v, .bool o.en, .string o.tx]) ∧ o.tx.size ≤ 8) ∧ Below w.heap.size w w'

set_option maxRecDepth 200000 in
set_option maxHeartbeats 4000000 in
theorem drawValid (a : Option Addr) (cap : Nat) (xs : List Int) (w : World) (rx : RdB w a xs) (hx : xs.length ≤ cap) :
    Calls Try.prog 55 #[.slice a xs.length cap] w (DrawnO w) := by
  obtain ⟨w0, hw0⟩ : ∃ w0, w0 = w.alloc (.cells #[.int .i64 0, .int .i64 0, .int .i64 0, .int .i64 0, .int .i64 0, .int .i64 0, .int .i64 0, .int .i64 0, .int .i64 0, .int .i64 0, .bool false, .string ⟨#[]⟩] 27) := ⟨_, rfl⟩
  have B0 : Below w.heap.size w w0 := by rw [hw0]; exact (Below.refl _ _).alloc (Nat.le_refl _) _
  have z0 : w.heap.size < w0.heap.size := by rw [hw0]; simp
  have HK0 := Lib.hid (by rw [hw0]; exact box_new w zop : Box w0 w.heap.size zop)
  have HN := Lib.hid (newReader a cap xs w0 (rdb_below rx B0) hx)
  have HW0 := Lib.hid hw0
  have HB0 := Lib.hid B0
  clear rx hw0 B0
  go_enter Try.func55, Try.ntmps55
  go_wp2_with fail
  rw [← HW0.out]
  refine HN.out.mono ?_
  rintro e w1 ⟨rfl, ⟨a1, c1, zs, hs⟩, b1, hz⟩
  have HK1 := Lib.hid (Box.wr (R := w0.heap.size) HK0.out (.of_below b1) (by omega))
  have HA := Lib.hid (anyOp (w0.heap.size + 1) w0.heap.size a1 c1 0 zs w1 hs (by omega) (by omega))
  have HB1 := Lib.hid (HB0.out.trans (b1.mono (by omega)))
  clear hs HN b1 HK0 HB0
  go_wp2_with fail
  refine HA.out.mono ?_
  rintro e w2 ⟨⟨o, rfl, ht⟩, _, hw⟩
  have HK2 := Lib.hid (Box.wr HK1.out hw (by omega))
  have HB2 := Lib.hid (HB1.out.trans (hw.below (n := w.heap.size) (by have := HB1.out.size; omega) (by omega)))
  clear hw HA HK1 HB1
  go_wp2_with (refine boxRes rfl _ _ rfl rfl rfl HK2.out ?_; intro wf Cf Ef)
  obtain ⟨d0, d1, d2, d3, d4, d5, d6, d7, d8, d9, d10, d11⟩ := Cf
  exact bodyPost_ret (v := .agg #[.int .i64 o.i, .int .i64 o.j, .int .i64 o.k, .int .i64 o.ts, .int .i64 o.ta, .int .i64 o.fs, .int .i64 o.fa, .int .i64 o.ns, .int .i64 o.na, .int .i64 o.v, .bool o.en, .string o.tx]) (by simp [results, Try.results55, go_sem, d0, d1, d2, d3, d4, d5, d6, d7, d8, d9, d10, d11]) rfl ⟨⟨o, rfl, ht⟩, HB2.out.trans (Ef.below (by have := HB2.out.size; omega) (Nat.le_refl _))⟩

theorem ref_law {ids ida s a : Int} {n : Bool} (h : vref ids ida s a n = true) : (s = 0 ∧ a = 0) ∨ (s ≠ 0 ∧ slt s a ids ida = true) := by
  unfold vref zst at h
  split at h
  next e =>
    simp only [Bool.and_eq_true, decide_eq_true_eq] at e
    exact .inl e
  next e =>
    rw [Bool.and_eq_true] at h
    have h1 := ((vst_iff s a).1 h.1).1.1
    exact .inr ⟨by omega, h.2⟩
theorem zst_law {ids ida s a : Int} (h : zst s a = true) : (s = 0 ∧ a = 0) ∨ (s ≠ 0 ∧ slt s a ids ida = true) := by
  unfold zst at h
  simp only [Bool.and_eq_true, decide_eq_true_eq] at h
  exact .inl h
theorem bare_law {t : ByteArray} (h : bareB t = true) : t = ⟨#[]⟩ := by
  obtain ⟨d⟩ := t
  unfold bareB at h
  rw [List.isEmpty_iff] at h
  have e : d.toList = [] := by
    have := h
    rw [ByteArray.toList_eq] at this
    exact this
  rw [Array.toList_eq_nil_iff] at e
  rw [e]
/-- A valid operation refers to the past only, and has a text only if it is a comment or a reply. -/
theorem causal {o : OpV} (h : vop o = true) : vst o.i o.j = true ∧ ((o.ts = 0 ∧ o.ta = 0) ∨ (o.ts ≠ 0 ∧ slt o.ts o.ta o.i o.j = true)) ∧ ((o.fs = 0 ∧ o.fa = 0) ∨ (o.fs ≠ 0 ∧ slt o.fs o.fa o.i o.j = true)) ∧ ((o.ns = 0 ∧ o.na = 0) ∨ (o.ns ≠ 0 ∧ slt o.ns o.na o.i o.j = true)) ∧ (o.tx = ⟨#[]⟩ ∨ o.k = 8 ∨ o.k = 9) := by
  unfold vop at h
  rw [Bool.and_eq_true] at h
  refine ⟨h.1, ?_⟩
  have h2 := h.2
  unfold opKindOk at h2
  repeat (split at h2; · (simp only [Bool.and_eq_true] at h2; first
    | exact ⟨ref_law h2.1, ref_law h2.2.1, ref_law h2.2.2.1, by first | exact .inl (bare_law h2.2.2.2.2.2) | exact .inr (.inl (by assumption)) | exact .inr (.inr (by assumption))⟩
    | exact ⟨ref_law h2.1, ref_law h2.2.1, zst_law h2.2.2.1, by first | exact .inl (bare_law h2.2.2.2.2.2) | exact .inl (bare_law h2.2.2.2.2) | exact .inr (.inl (by assumption)) | exact .inr (.inr (by assumption))⟩
    | exact ⟨ref_law h2.1, zst_law h2.2.1, zst_law h2.2.2.1, by first | exact .inl (bare_law h2.2.2.2.2.2) | exact .inl (bare_law h2.2.2.2.2) | exact .inr (.inl (by assumption)) | exact .inr (.inr (by assumption))⟩))
  cases h2

end Go.Proofs.Ytlogpbejfifgdaa.OcA
