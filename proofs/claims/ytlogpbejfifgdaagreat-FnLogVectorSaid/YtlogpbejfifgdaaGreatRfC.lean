/-
  anyLog of the reader: it gives a new slice of at most 29 operations with short texts, and writes nothing that was there but the reader. For every reader whose position is at most 200000.
-/
import Derived.Test.YtlogpbejfifgdaaGreatRfB
namespace Go.Proofs.YtlogpbejfifgdaaGreat.RfC
open Go.RowKit Go.Proofs.YtlogpbejfifgdaaGreat.Base Go.Proofs.YtlogpbejfifgdaaGreat.OpA Go.Proofs.YtlogpbejfifgdaaGreat.OpB Go.Proofs.YtlogpbejfifgdaaGreat.LgA Go.Proofs.YtlogpbejfifgdaaGreat.LgB Go.Proofs.YtlogpbejfifgdaaGreat.LgC Go.Proofs.YtlogpbejfifgdaaGreat.LgF Go.Proofs.YtlogpbejfifgdaaGreat.LgN Go.Proofs.YtlogpbejfifgdaaGreat.LgP Go.Proofs.YtlogpbejfifgdaaGreat.LgZ Go.Proofs.YtlogpbejfifgdaaGreat.LhA Go.Proofs.YtlogpbejfifgdaaGreat.RdA Go.Proofs.YtlogpbejfifgdaaGreat.RdB Go.Proofs.YtlogpbejfifgdaaGreat.RdC Go.Proofs.YtlogpbejfifgdaaGreat.RgC Go.Proofs.YtlogpbejfifgdaaGreat.ReA Go.Proofs.YtlogpbejfifgdaaGreat.RfA Go.Proofs.YtlogpbejfifgdaaGreat.RfB
set_option linter.unusedVariables false

theorem Wr.grown {R : Nat} {w w' : World} (h : Wr R w w') : w.grownBy w' (some R) := ⟨h.os, h.tape, h.output, h.size, fun k hk hne => h.block k hk (fun e => hne (by rw [e]))⟩
theorem OwnsO.wr {R lo : Nat} {w w' : World} {v : Value} {os : List OpV} (h : OwnsO w lo v os) (hw : Wr R w w') (hR : R < lo) : OwnsO w' lo v os := by
  unfold OwnsO at h ⊢
  refine h.kept (Wr.grown hw) ?_
  rcases h.2 with ⟨hv, _⟩ | ⟨g, cap, cur, hv, hb, _⟩
  · left; rw [hv]; rfl
  · right
    rw [hv]
    simp only [Value.ownBlock, ne_eq, Option.some.injEq]
    omega
theorem RowO.wr {R lo : Nat} {w w' : World} {a : Option Addr} {c n : Nat} {f : Nat → OpV} (h : RowO lo w a c n f) (hw : Wr R w w') (hR : R < lo) : RowO lo w' a c n f := by
  rcases h with h | ⟨b, ha, hl, h⟩
  · exact .inl h
  · exact .inr ⟨b, ha, hl, h.of_block (hw.block b h.lt (by omega))⟩
/-- One cell of an operation in a row of the call's own. -/
theorem OwnO.set1 {w : World} {b c n : Nat} {f : Nat → OpV} (h : OwnO w b c n f) {k j : Nat} (hk : k < n) (hj : j < 12) {v : Value} {o' : OpV} (e : opL o' = (opL (f k)).set j v) : OwnO (w.setCell ⟨b, k * 12 + j, none⟩ v) b c n (fun i => if i = k then o' else f i) := by
  obtain ⟨g, h, hn, hg⟩ := h
  refine ⟨_, h.set (k * 12 + j) v, hn, fun i hi l hl => ?_⟩
  show _ = (opL (if i = k then o' else f i)).getD l undef
  by_cases e1 : i = k
  · subst e1
    rw [if_pos rfl, e, List.getD_eq_getElem?_getD, List.getElem?_set]
    by_cases e2 : l = j
    · subst e2
      simp [opL_len, hl]
    · rw [if_neg (by omega), if_neg (by omega), hg i hi l hl, List.getD_eq_getElem?_getD]
  · rw [if_neg (by omega), if_neg e1, hg i hi l hl]

/-- What is drawn: a slice of the call's own with some operations, not many, their texts short. -/
def LogsE (n R : Nat) (a : Option Addr) (cap P : Nat) (zs : List Int) (w : World) (e : Ending) (w' : World) : Prop :=
  (∃ (A : Option Addr) (c : Nat) (os : List OpV), e = .returned (.slice A os.length c) ∧ RowO w.heap.size w' A c os.length (fun i => os.getD i zop) ∧ os.length ≤ 29 ∧ ∀ k, k < os.length → (os.getD k zop).tx.size ≤ 8) ∧ (∃ p, p ≤ P ∧ RS n w' R a cap p zs) ∧ Wr R w w'

theorem setAt (os : List OpV) (k : Nat) (hk : k < os.length) (o' : OpV) (i : Nat) (hi : i < os.length) : (if i = k then o' else os.getD i zop) = (os.set k o').getD i zop := by
  simp only [List.getD_eq_getElem?_getD, List.getElem?_set]
  by_cases e : i = k
  · subst e; simp [hi]
  · simp [e, Ne.symm e]
theorem short_set {os : List OpV} {k : Nat} {o' : OpV} (h : ∀ i, i < os.length → (os.getD i zop).tx.size ≤ 8) (ho : o'.tx.size ≤ 8) (hk : k < os.length) : ∀ i, i < (os.set k o').length → ((os.set k o').getD i zop).tx.size ≤ 8 := by
  intro i hi
  rw [List.length_set] at hi
  rw [← setAt os k hk o' i hi]
  split
  · exact ho
  · exact h i hi

set_option maxRecDepth 100000 in
set_option maxHeartbeats 4000000 in
theorem anyLog (n R : Nat) (a : Option Addr) (cap p : Nat) (zs : List Int) (w : World) (h : RS n w R a cap p zs) (hp : p ≤ 200000) (hn : n ≤ w.heap.size) :
    Calls Tryz.prog 20 #[.pointer (some ⟨R, 0, none⟩)] w (LogsE n R a cap (p + 1010) zs w) := by
  have hR : R < n := h.2.1
  have HA := Lib.hid (randomLog n R a cap p zs w h hp hn)
  clear h
  go_enter Tryz.func20, Tryz.ntmps20
  go_wp2_with fail
  refine HA.out.mono ?_
  rintro e w1 ⟨⟨v, os, rfl, hown, hf⟩, ⟨p1, hp1, hs1⟩, hw1⟩
  obtain ⟨A, c, rfl, hrow⟩ := ownedO hown
  have hlen : os.length ≤ 28 := hf.1
  have HO := Lib.hid hown
  have HRow := Lib.hid hrow
  have HF := Lib.hid hf.2.2
  have HS1 := Lib.hid hs1
  have HW1 := Lib.hid hw1
  have z1 := hw1.size
  clear hown hrow hf hs1 hw1 HA
  by_cases h0 : os.length = 0
  · have h00 : ¬ (0 : Int) < (os.length : Int) := by omega
    clear h0
    go_wp2
    go_ret
    exact ⟨⟨A, c, os, rfl, HRow.out, by omega, HF.out⟩, ⟨p1, by omega, HS1.out⟩, HW1.out⟩
  · have h00 : (0 : Int) < (os.length : Int) := by omega
    have ho0 : 0 < os.length := by omega
    clear h0
    go_wp2_with fail
    refine (pickS n R a cap p1 os.length zs _ HS1.out (by omega) ho0 (by omega)).mono ?_
    rintro e w2 ⟨⟨k, hk, rfl⟩, hs2, hw2⟩
    have HW2 := Lib.hid (HW1.out.trans hw2)
    have HRow2 := Lib.hid (RowO.wr HRow.out hw2 (by omega))
    have HO2 := Lib.hid (OwnsO.wr HO.out hw2 (by omega))
    have HS2 := Lib.hid hs2
    have z2 := hw2.size
    clear hs2 hw2 HS1 HW1 HRow HO
    go_wp2_with fail
    refine (pickS n R a cap (p1 + 1) 16 zs _ HS2.out (by omega) (by omega) (by omega)).mono ?_
    rintro e w3 ⟨⟨m, hm, rfl⟩, hs3, hw3⟩
    have HW3 := Lib.hid (HW2.out.trans hw3)
    have HRow3 := Lib.hid (RowO.wr HRow2.out hw3 (by omega))
    have HO3 := Lib.hid (OwnsO.wr HO2.out hw3 (by omega))
    have HS3 := Lib.hid hs3
    have z3 := hw3.size
    clear hs3 hw3 HS2 HW2 HRow2 HO2
    have hk0 : (0 : Int) ≤ (k : Int) := Int.natCast_nonneg _
    have hk1 : (k : Int) < (os.length : Int) := by omega
    rcases HRow3.out with ⟨_, h0⟩ | ⟨g, rfl, hg, hown3⟩
    · omega
    have HN3 := Lib.hid hown3
    clear hown3 HRow3
    rcases (show m = 0 ∨ m = 1 ∨ m = 2 ∨ 3 ≤ m by omega) with rfl | rfl | rfl | hm3
    · go_wp2_with fail
      refine (one n R a cap (p1 + 1 + 1) zs _ (HS3.out.below ((Below.refl n w3).alloc (by omega) _)) (by omega) w3.heap.size 3 (fun i => [-1, 0, 127].getD i 0) ?_ (by omega) (by simp) (by omega) (by omega)).mono ?_
      · intro i hi
        rw [World.cell?_alloc_at _ _ _ _ rfl]
        obtain rfl | rfl | rfl : i = 0 ∨ i = 1 ∨ i = 2 := by omega
        all_goals rfl
      rintro e w4 ⟨⟨x, rfl⟩, hs4, hw4⟩
      have W4 : Wr R w3 w4 := ((Wr.refl R w3).alloc _).trans hw4
      have N4 := HN3.out.of_block (W4.block g HN3.out.lt (by omega))
      have c9 : w4.cell? ⟨g, k * 12 + 9, none⟩ = some (.int .i64 (os.getD k zop).v) := (c12 (N4.range hk)).2.2.2.2.2.2.2.2.2.1
      have f9 : w4.frozen? ⟨g, k * 12 + 9, none⟩ = false := N4.frozen _
      have HN4 := Lib.hid (OwnO.set1 (j := 9) (v := .int .i64 x) (o' := { os.getD k zop with v := x }) N4 hk (by omega) rfl)
      have HW4 := Lib.hid ((HW3.out.trans W4).setNew (x := ⟨g, k * 12 + 9, none⟩) (by show w.heap.size ≤ g; exact hg) (.int .i64 x))
      have HS4 := Lib.hid (hs4.setNew (x := ⟨g, k * 12 + 9, none⟩) (by show n ≤ g; omega) (.int .i64 x))
      clear N4 W4 hs4 hw4 HN3 HO3
      go_wp2
      go_ret
      refine ⟨⟨_, c, os.set k { os.getD k zop with v := x }, by rw [List.length_set]; rfl, .inr ⟨g, rfl, hg, ?_⟩, by rw [List.length_set]; omega, short_set HF.out (HF.out k hk) hk⟩, ⟨_, by omega, HS4.out⟩, HW4.out⟩
      rw [List.length_set]
      exact HN4.out.congr fun i hi => setAt os k hk _ i hi
    · go_wp2_with fail
      refine (anyStamp n R a cap (p1 + 1 + 1) zs _ HS3.out (by omega) (by omega)).mono ?_
      rintro e w4 ⟨⟨s, t, rfl⟩, ⟨p4, hp4, hs4⟩, hw4⟩
      have N4 := HN3.out.of_block (hw4.block g HN3.out.lt (by omega))
      have th : w4.there g (k * 12) 2 := fun i hi => N4.there (Nat.lt_of_lt_of_le hk N4.le) i (by omega)
      have TH := Lib.hid th
      have N5 := OwnO.set1 (j := 0) (v := .int .i64 s) (o' := { os.getD k zop with i := s }) N4 hk (by omega) rfl
      have N6 := OwnO.set1 (j := 1) (v := .int .i64 t) (o' := { os.getD k zop with i := s, j := t }) N5 hk (by omega) (by rw [if_pos rfl]; rfl)
      have HN6 := Lib.hid N6
      have HW4 := Lib.hid ((HW3.out.trans hw4).setNew (x := ⟨g, k * 12, none⟩) (by show w.heap.size ≤ g; exact hg) (.int .i64 s) |>.setNew (x := ⟨g, k * 12 + 1, none⟩) (by show w.heap.size ≤ g; exact hg) (.int .i64 t))
      have HS4 := Lib.hid ((hs4.setNew (x := ⟨g, k * 12, none⟩) (by show n ≤ g; omega) (.int .i64 s)).setNew (x := ⟨g, k * 12 + 1, none⟩) (by show n ≤ g; omega) (.int .i64 t))
      clear N4 N5 N6 th hs4 hw4 HN3 HO3
      go_wp2_with (refine wpList_store_mid rfl 37 _ _ rfl g (k * 12) #[.int .i64 s, .int .i64 t] rfl rfl TH.out size_stamp (by simp [Value.oneCell']) ?_)
      go_ret
      refine ⟨⟨_, c, os.set k { os.getD k zop with i := s, j := t }, by rw [List.length_set]; rfl, .inr ⟨g, rfl, hg, ?_⟩, by rw [List.length_set]; omega, short_set HF.out (HF.out k hk) hk⟩, ⟨p4, by omega, HS4.out⟩, HW4.out⟩
      rw [List.length_set]
      refine HN6.out.congr fun i hi => ?_
      rw [← setAt os k hk _ i hi]
      by_cases e : i = k <;> simp [e]
    · have hrg : w3.rangeAt g (k * 12) (opL (os.getD k zop)) := HN3.out.range hk
      have hqs := HF.out k hk
      generalize os.getD k zop = q at hrg hqs
      have HRg := Lib.hid hrg
      have HQS := Lib.hid hqs
      clear hrg hqs
      go_wp2_with (first
        | (refine loadI rfl _ rfl rfl HRg.out ?_)
        | ((with_reducible refine appendO (o := q) rfl _ _ rfl rfl rfl HO3.out (by omega) (by omega : w.heap.size ≤ w3.heap.size) ?_); intro v4 w4 hown4 hb4 hz4))
      go_ret
      obtain ⟨A4, c4, rfl, hrow4⟩ := ownedO hown4
      have hb5 : Below w.heap.size w3 w4 := hb4
      refine ⟨⟨A4, c4, os ++ [q], rfl, hrow4, by simp; omega, fun i hi => ?_⟩, ⟨_, by omega, HS3.out.below (hb5.mono hn)⟩, ⟨hb5.os.trans HW3.out.os, hb5.tape.trans HW3.out.tape, hb5.output.trans HW3.out.output, Nat.le_trans HW3.out.size hb5.size, fun k hk hne => (hb5.block k hk).trans (HW3.out.block k hk hne)⟩⟩
      simp only [List.length_append, List.length_singleton] at hi
      rcases Nat.lt_or_ge i os.length with hi2 | hi2
      · rw [List.getD_eq_getElem?_getD, List.getElem?_append_left hi2, ← List.getD_eq_getElem?_getD]
        exact HF.out i hi2
      · obtain rfl : i = os.length := by omega
        rw [List.getD_eq_getElem?_getD, List.getElem?_append_right (Nat.le_refl _), Nat.sub_self]
        exact HQS.out
    · have q0 : ((m : Int) == 0) = false := by apply beq_false_of_ne; omega
      have q1 : ((m : Int) == 1) = false := by apply beq_false_of_ne; omega
      have q2 : ((m : Int) == 2) = false := by apply beq_false_of_ne; omega
      clear hm hm3
      go_wp2
      go_ret
      exact ⟨⟨_, c, os, rfl, .inr ⟨g, rfl, hg, HN3.out⟩, by omega, HF.out⟩, ⟨_, by omega, HS3.out⟩, HW3.out⟩

end Go.Proofs.YtlogpbejfifgdaaGreat.RfC
