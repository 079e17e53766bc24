/-
  DrawLogInsert of the reader: a slice of at most 29 operations with short texts and an operation with a short text; nothing that was there is written. For every slice of bytes.
-/
import Derived.Test.YtlogpbejfifgdaaRfC
import Derived.Test.YtlogpbejfifgdaaK4
import Derived.Test.YtlogpbejfifgdaaOcA
import Derived.StillTailTactics
import Derived.Outline
namespace Go.Proofs.Ytlogpbejfifgdaa.MoH
open Go.RowKit Go.Proofs.Ytlogpbejfifgdaa.Base Go.Proofs.Ytlogpbejfifgdaa.OpA Go.Proofs.Ytlogpbejfifgdaa.OpB Go.Proofs.Ytlogpbejfifgdaa.LgA Go.Proofs.Ytlogpbejfifgdaa.LgB Go.Proofs.Ytlogpbejfifgdaa.LgC Go.Proofs.Ytlogpbejfifgdaa.LgF Go.Proofs.Ytlogpbejfifgdaa.LgN Go.Proofs.Ytlogpbejfifgdaa.LgP Go.Proofs.Ytlogpbejfifgdaa.LgZ Go.Proofs.Ytlogpbejfifgdaa.LhA Go.Proofs.Ytlogpbejfifgdaa.RdA Go.Proofs.Ytlogpbejfifgdaa.RdB Go.Proofs.Ytlogpbejfifgdaa.RdC Go.Proofs.Ytlogpbejfifgdaa.RdD Go.Proofs.Ytlogpbejfifgdaa.RgC Go.Proofs.Ytlogpbejfifgdaa.ReA Go.Proofs.Ytlogpbejfifgdaa.RfC Go.Proofs.Ytlogpbejfifgdaa.MoG Go.Proofs.Ytlogpbejfifgdaa.OcA
set_option linter.unusedVariables false

/-- A log and an operation that are drawn. -/
def DrawnI (w : World) (e : Ending) (w' : World) : Prop :=
  (∃ (A : Option Addr) (c : Nat) (os : List OpV) (o : OpV), e = .returned (.tuple #[.slice A os.length c, .agg #[.int .i64 o.i, .int .i64 o.j, .int .i64 o.k, .int .i64 o.ts, .int .i64 o.ta, .int .i64 o.fs, .int .i64 o.fa, .int .i64 o.ns, .int .i64 o.na, .int .i64 o.v, .bool o.en, .string o.tx]]) ∧ RowO w.heap.size w' A c os.length (fun i => os.getD i zop) ∧ os.length ≤ 29 ∧ (∀ k, k < os.length → (os.getD k zop).tx.size ≤ 8) ∧ o.tx.size ≤ 8) ∧ Below w.heap.size w w'

theorem rowO_lower {lo lo' : Nat} {w : World} {a : Option Addr} {c n : Nat} {f : Nat → OpV} (h : RowO lo w a c n f) (hl : lo' ≤ lo) : RowO lo' w a c n f := by
  rcases h with h | ⟨b, ha, hb, h⟩
  · exact .inl h
  · exact .inr ⟨b, ha, by omega, h⟩

set_option maxRecDepth 200000 in
set_option maxHeartbeats 8000000 in
theorem drawInsert (a : Option Addr) (cap : Nat) (xs : List Int) (w : World) (rx : RdB w a xs) (hx : xs.length ≤ cap) :
    Calls Try.prog 13 #[.slice a xs.length cap] w (DrawnI w) := by
  obtain ⟨w0, hw0⟩ : ∃ w0, w0 = w.alloc (.cells #[.int .i64 0, .int .i64 0, .int .i64 0, .int .i64 0, .int .i64 0, .int .i64 0, .int .i64 0, .int .i64 0, .int .i64 0, .int .i64 0, .bool false, .string ⟨#[]⟩] 27) := ⟨_, rfl⟩
  have B0 : Below w.heap.size w w0 := by rw [hw0]; exact (Below.refl _ _).alloc (Nat.le_refl _) _
  have z0 : w.heap.size < w0.heap.size := by rw [hw0]; simp
  have HK0 := Lib.hid (by rw [hw0]; exact box_new w zop : Box w0 w.heap.size zop)
  have HN := Lib.hid (newReader a cap xs w0 (rdb_below rx B0) hx)
  have HW0 := Lib.hid hw0
  have HB0 := Lib.hid B0
  clear rx hw0 B0
  go_enter Try.func13, Try.ntmps13
  go_wp2_with fail
  rw [← HW0.out]
  refine HN.out.mono ?_
  rintro e w1 ⟨rfl, ⟨a1, c1, zs, hs⟩, b1, hz⟩
  have HK1 := Lib.hid (Box.wr (R := w0.heap.size) HK0.out (.of_below b1) (by omega))
  have HA := Lib.hid (anyLog (w0.heap.size + 1) w0.heap.size a1 c1 0 zs w1 hs (by omega) (by omega))
  have HB1 := Lib.hid (HB0.out.trans (b1.mono (by omega)))
  clear hs HN b1 HK0 HB0
  go_wp2_with fail
  refine HA.out.mono ?_
  rintro e w2 ⟨⟨A, c, os, rfl, hrow, hlen, ht⟩, ⟨p, hp, hs2⟩, hw⟩
  have z2 := hw.size
  have HK2 := Lib.hid (HK1.out.wr hw (by omega))
  have HB2 := Lib.hid (HB1.out.trans (hw.below (n := w.heap.size) (by omega) (by omega)))
  have HRow := Lib.hid hrow
  have HT := Lib.hid ht
  have HP := Lib.hid (pickS (w0.heap.size + 1) w0.heap.size a1 c1 p 4 zs w2 hs2 (by omega) (by omega) (by omega))
  clear hw HA HK1 HB1 hrow ht hs2
  go_wp2_with fail
  refine HP.out.mono ?_
  rintro e w3 ⟨⟨k, hk, rfl⟩, hs3, hw3⟩
  have z3 := hw3.size
  have HK3 := Lib.hid (HK2.out.wr hw3 (by omega))
  have HB3 := Lib.hid (HB2.out.trans (hw3.below (n := w.heap.size) (by omega) (by omega)))
  have HRow3 := Lib.hid (RowO.wr HRow.out hw3 (by omega))
  have HS3 := Lib.hid hs3
  clear hs3 hw3 HP HK2 HB2 HRow
  rcases (show (k = 0 ∧ 0 < os.length) ∨ (k = 0 ∧ os.length = 0) ∨ 0 < k from by omega) with ⟨rfl, h0⟩ | h1
  · have h00 : (0 : Int) < (os.length : Int) := by omega
    rcases HRow3.out with ⟨_, h1⟩ | ⟨g, rfl, hg, hown⟩
    · omega
    have HO := Lib.hid hown
    have HPD := Lib.hid (pickS (w0.heap.size + 1) w0.heap.size a1 c1 (p + 1) os.length zs w3.drew (RS.keep HS3.out fun _ _ => rfl) (by omega) (by omega) (by omega))
    have HKD := Lib.hid (show Box w3.drew w.heap.size zop from OwnO.of_block HK3.out rfl)
    have HOD := Lib.hid (show OwnO w3.drew g c os.length (fun i => os.getD i zop) from OwnO.of_block HO.out rfl)
    have HBD := Lib.hid (HB3.out.drew)
    clear hown
    go_wp2
    clear HS3 HK3 HB3 HRow3 HW0 HO
    go_region_with (go_at_call 60; refine HPD.out.mono ?_; rintro e w4 ⟨⟨m, hm, rfl⟩, hs4, hw4⟩; have HK4 := Lib.hid (HKD.out.wr hw4 (by omega)); have HO4 := Lib.hid (HOD.out.of_block (hw4.block g HOD.out.lt (by omega))); have HB4 := Lib.hid (HBD.out.trans (hw4.below (n := w.heap.size) (by show w.heap.size ≤ w3.heap.size; omega) (by omega))); obtain ⟨q, hq⟩ : ∃ q, q = os.getD m zop := ⟨_, rfl⟩; obtain ⟨q0, q1, q2, q3, q4, q5, q6, q7, q8, q9, q10, q11⟩ := c12 (show w4.rangeAt g (m * 12) (opL q) from (by rw [hq]; exact HO4.out.range hm)); obtain ⟨r0, r1, r2, r3, r4, r5, r6, r7, r8, r9, r10, r11⟩ := c12 (Box.range HK4.out); have f0 := OwnO.frozen HK4.out 0; have f1 := OwnO.frozen HK4.out 1; have f2 := OwnO.frozen HK4.out 2; have f3 := OwnO.frozen HK4.out 3; have f4 := OwnO.frozen HK4.out 4; have f5 := OwnO.frozen HK4.out 5; have f6 := OwnO.frozen HK4.out 6; have f7 := OwnO.frozen HK4.out 7; have f8 := OwnO.frozen HK4.out 8; have f9 := OwnO.frozen HK4.out 9; have f10 := OwnO.frozen HK4.out 10; have f11 := OwnO.frozen HK4.out 11; have HQ := Lib.hid (show q.tx.size ≤ 8 from (by rw [hq]; exact HT.out m hm)); have z4 : w3.heap.size ≤ w4.heap.size := hw4.size; have m0 : (0 : Int) ≤ (m : Int) := Int.natCast_nonneg _; have m1 : (m : Int) < (os.length : Int) := (by omega); clear hq hs4 hw4 hm HPD HKD HOD HBD)
    all_goals
      go_wp2
      refine bodyPost_ret (v := .tuple #[.slice (some ⟨g, 0, none⟩) os.length c, .agg #[.int .i64 q.i, .int .i64 q.j, .int .i64 q.k, .int .i64 q.ts, .int .i64 q.ta, .int .i64 q.fs, .int .i64 q.fa, .int .i64 q.ns, .int .i64 q.na, .int .i64 q.v, .bool q.en, .string q.tx]]) (by simp [results, Try.results13, go_sem, r0, r1, r2, r3, r4, r5, r6, r7, r8, r9, r10, r11]) rfl ⟨⟨_, c, os, q, rfl, ?_, hlen, HT.out, HQ.out⟩, ?_⟩
      · exact rowO_lower (RowO.wr (R := w.heap.size) (.inr ⟨g, rfl, hg, HO4.out⟩) (wr12 w4 w.heap.size _ _ _ _ _ _ _ _ _ _ _ _) (by omega)) (by omega)
      · exact HB4.out.trans ((wr12 w4 w.heap.size _ _ _ _ _ _ _ _ _ _ _ _).below (by have := HB4.out.size; omega) (Nat.le_refl _))
  · have h00 : (((k : Int) == 0) && decide ((0 : Int) < (os.length : Int))) = false := by
      rcases h1 with ⟨_, h⟩ | h
      · rw [h]; simp
      · have : ((k : Int) == 0) = false := beq_false_of_ne (by omega)
        rw [this]; rfl
    have hg0 : k = 0 → os.length = 0 := fun h => by omega
    have HA := Lib.hid (anyOp (w0.heap.size + 1) w0.heap.size a1 c1 (p + 1) zs w3 HS3.out (by omega) (by omega))
    have hgoal : (k = 0 ∧ os = []) ∨ ((k : Int) == 0) = false := by
      rcases h1 with ⟨h, h'⟩ | h
      · exact .inl ⟨h, List.eq_nil_of_length_eq_zero h'⟩
      · exact .inr (beq_false_of_ne (by omega))
    clear h00 hg0 h1
    rcases hgoal with ⟨rfl, rfl⟩ | hk0
    all_goals
      go_wp2_with fail
      refine HA.out.mono ?_
      rintro e w4 ⟨⟨o, rfl, hto⟩, _, hw4⟩
      have z4 := hw4.size
      have HK4 := Lib.hid (HK3.out.wr hw4 (by omega))
      have HB4 := Lib.hid (HB3.out.trans (hw4.below (n := w.heap.size) (by omega) (by omega)))
      have HRow4 := Lib.hid (RowO.wr HRow3.out hw4 (by omega))
      clear hw4 HA
      go_wp2_with (refine boxRes rfl _ _ rfl rfl rfl HK4.out ?_; intro wf Cf Ef)
      obtain ⟨d0, d1, d2, d3, d4, d5, d6, d7, d8, d9, d10, d11⟩ := Cf
      refine bodyPost_ret (v := .tuple #[.slice A _ c, .agg #[.int .i64 o.i, .int .i64 o.j, .int .i64 o.k, .int .i64 o.ts, .int .i64 o.ta, .int .i64 o.fs, .int .i64 o.fa, .int .i64 o.ns, .int .i64 o.na, .int .i64 o.v, .bool o.en, .string o.tx]]) (by simp [results, Try.results13, go_sem, d0, d1, d2, d3, d4, d5, d6, d7, d8, d9, d10, d11]) rfl ⟨⟨A, c, _, o, rfl, ?_, hlen, HT.out, hto⟩, ?_⟩
      · exact rowO_lower (RowO.wr (R := w.heap.size) HRow4.out Ef (by omega)) (by omega)
      · exact HB4.out.trans (Ef.below (by have := HB4.out.size; omega) (Nat.le_refl _))

end Go.Proofs.Ytlogpbejfifgdaa.MoH
