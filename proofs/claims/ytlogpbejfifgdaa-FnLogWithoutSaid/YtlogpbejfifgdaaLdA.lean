/-
  DrawMakeUndo and DrawLogWithout of the reader: a slice of at most 29 operations with short texts, a stamp (and a bool); nothing that was there is written. For every slice of bytes.
-/
import Derived.Test.YtlogpbejfifgdaaRfC
import Derived.Test.YtlogpbejfifgdaaK4
import Derived.Outline
namespace Go.Proofs.Ytlogpbejfifgdaa.LdA
open Go.RowKit Go.Proofs.Ytlogpbejfifgdaa.Base Go.Proofs.Ytlogpbejfifgdaa.OpA Go.Proofs.Ytlogpbejfifgdaa.OpB Go.Proofs.Ytlogpbejfifgdaa.LgA Go.Proofs.Ytlogpbejfifgdaa.LgB Go.Proofs.Ytlogpbejfifgdaa.LgC Go.Proofs.Ytlogpbejfifgdaa.LgF Go.Proofs.Ytlogpbejfifgdaa.LgN Go.Proofs.Ytlogpbejfifgdaa.LgP Go.Proofs.Ytlogpbejfifgdaa.RdA Go.Proofs.Ytlogpbejfifgdaa.RdB Go.Proofs.Ytlogpbejfifgdaa.RdC Go.Proofs.Ytlogpbejfifgdaa.RdD Go.Proofs.Ytlogpbejfifgdaa.RfC
set_option linter.unusedVariables false

def DrawnM (w : World) (e : Ending) (w' : World) : Prop :=
  (∃ (A : Option Addr) (c : Nat) (os : List OpV) (s t : Int) (b : Bool), e = .returned (.tuple #[.slice A os.length c, .agg #[.int .i64 s, .int .i64 t], .bool b]) ∧ RowO w.heap.size w' A c os.length (fun i => os.getD i zop) ∧ os.length ≤ 29 ∧ ∀ k, k < os.length → (os.getD k zop).tx.size ≤ 8) ∧ Below w.heap.size w w'
def DrawnW (w : World) (e : Ending) (w' : World) : Prop :=
  (∃ (A : Option Addr) (c : Nat) (os : List OpV) (s t : Int), e = .returned (.tuple #[.slice A os.length c, .agg #[.int .i64 s, .int .i64 t]]) ∧ RowO w.heap.size w' A c os.length (fun i => os.getD i zop) ∧ os.length ≤ 29 ∧ ∀ k, k < os.length → (os.getD k zop).tx.size ≤ 8) ∧ Below w.heap.size w w'

theorem rowO_lower {lo lo' : Nat} {w : World} {a : Option Addr} {c n : Nat} {f : Nat → OpV} (h : RowO lo w a c n f) (hl : lo' ≤ lo) : RowO lo' w a c n f := by
  rcases h with h | ⟨b, ha, hb, h⟩
  · exact .inl h
  · exact .inr ⟨b, ha, by omega, h⟩

set_option maxRecDepth 200000 in
set_option maxHeartbeats 4000000 in
theorem drawMake (a : Option Addr) (cap : Nat) (xs : List Int) (w : World) (rx : RdB w a xs) (hx : xs.length ≤ cap) :
    Calls Try.prog 71 #[.slice a xs.length cap] w (DrawnM w) := by
  obtain ⟨w0, hw0⟩ : ∃ w0, w0 = w.alloc (.cells #[.int .i64 0, .int .i64 0] 25) := ⟨_, rfl⟩
  have B0 : Below w.heap.size w w0 := by rw [hw0]; exact (Below.refl _ _).alloc (Nat.le_refl _) _
  have z0 : w.heap.size < w0.heap.size := by rw [hw0]; simp
  have HK0 := Lib.hid (by rw [hw0]; exact Res.new w 25 : Res w.heap.size w0)
  have HN := Lib.hid (newReader a cap xs w0 (rdb_below rx B0) hx)
  have HW0 := Lib.hid hw0
  have HB0 := Lib.hid B0
  clear rx hw0 B0
  go_enter Try.func71, Try.ntmps71
  go_wp2_with fail
  rw [← HW0.out]
  refine HN.out.mono ?_
  rintro e w1 ⟨rfl, ⟨a1, c1, zs, hs⟩, b1, hz⟩
  have HK1 := Lib.hid (Res.wr (R := w0.heap.size) HK0.out (.of_below b1) (by omega))
  have HA := Lib.hid (anyLog (w0.heap.size + 1) w0.heap.size a1 c1 0 zs w1 hs (by omega) (by omega))
  have HB1 := Lib.hid (HB0.out.trans (b1.mono (by omega)))
  clear hs HN b1 HK0 HB0
  go_wp2_with fail
  refine HA.out.mono ?_
  rintro e w2 ⟨⟨A, c, os, rfl, hrow, hlen, ht⟩, ⟨p, hp, hs2⟩, hw⟩
  have z2 := hw.size
  have HK2 := Lib.hid (HK1.out.wr hw (by omega))
  have HB2 := Lib.hid (HB1.out.trans (hw.below (n := w.heap.size) (by omega) (by omega)))
  have HRow := Lib.hid hrow
  have HT := Lib.hid ht
  have HS2 := Lib.hid hs2
  have HW2 := Lib.hid (Wr.refl w0.heap.size w2)
  clear hw HA HK1 HB1 hrow ht hs2
  by_cases h0 : os.length = 0
  · obtain rfl : os = [] := List.eq_nil_of_length_eq_zero h0
    clear h0
    go_wp2_with fail
    refine (anyStamp (w0.heap.size + 1) w0.heap.size a1 c1 p zs w2 HS2.out (by omega) (by omega)).mono ?_
    rintro e w3 ⟨⟨s, t, rfl⟩, ⟨p3, hp3, hs3⟩, hw3⟩
    have z3 := hw3.size
    have HK3 := Lib.hid (HK2.out.wr hw3 (by omega))
    have HB3 := Lib.hid (HB2.out.trans (hw3.below (n := w.heap.size) (by omega) (by omega)))
    have HP3 := Lib.hid (pickS (w0.heap.size + 1) w0.heap.size a1 c1 p3 2 zs w3 hs3 (by omega) (by omega) (by omega))
    clear hs3
    go_wp2_with fail
    refine HP3.out.mono ?_
    rintro e w4 ⟨⟨m, hm, rfl⟩, hs4, hw4⟩
    have HB4 := Lib.hid (HB3.out.trans (hw4.below (n := w.heap.size) (by omega) (by omega)))
    have HRow4 := Lib.hid (RowO.wr (RowO.wr HRow.out hw3 (by omega)) hw4 (by omega))
    obtain ⟨x0, x1, x2, x3, x4⟩ := HK3.out.wr hw4 (by omega)
    clear hs4 hw4 hw3 HP3
    go_wp2
    refine bodyPost_ret (v := .tuple #[.slice A ([] : List OpV).length c, .agg #[.int .i64 s, .int .i64 t], .bool ((m : Int) == 0)]) (by simp [results, Try.results71, go_sem, x1, x2]) rfl ⟨⟨A, c, [], s, t, _, rfl, ?_, by simp, fun k hk => by cases hk⟩, ?_⟩
    · exact rowO_lower (RowO.wr (R := w.heap.size) HRow4.out ((Wr.set _ _ _ _).trans (Wr.set _ _ _ _)) (by omega)) (by omega)
    · exact (HB4.out.setCell (Nat.le_refl _) _).setCell (Nat.le_refl _) _
  · have ho0 : 0 < os.length := by omega
    have e0 : ((os.length : Int) == 0) = false := beq_false_of_ne (by omega)
    clear h0
    go_wp2_with fail
    refine (pickS (w0.heap.size + 1) w0.heap.size a1 c1 p 10 zs w2 HS2.out (by omega) (by omega) (by omega)).mono ?_
    rintro e w3 ⟨⟨k, hk, rfl⟩, hs3, hw3⟩
    have z3 := hw3.size
    have HK3 := Lib.hid (HK2.out.wr hw3 (by omega))
    have HB3 := Lib.hid (HB2.out.trans (hw3.below (n := w.heap.size) (by omega) (by omega)))
    have HRow3 := Lib.hid (RowO.wr HRow.out hw3 (by omega))
    have HS3 := Lib.hid hs3
    clear hs3 hw3 HK2 HB2 HS2 HRow HW2
    by_cases h1 : k = 0
    · subst h1
      go_wp2_with fail
      refine (anyStamp (w0.heap.size + 1) w0.heap.size a1 c1 (p + 1) zs w3 HS3.out (by omega) (by omega)).mono ?_
      rintro e w4 ⟨⟨s, t, rfl⟩, ⟨p4, hp4, hs4⟩, hw4⟩
      have z4 := hw4.size
      have HK4 := Lib.hid (HK3.out.wr hw4 (by omega))
      have HB4 := Lib.hid (HB3.out.trans (hw4.below (n := w.heap.size) (by omega) (by omega)))
      have HRow4 := Lib.hid (RowO.wr HRow3.out hw4 (by omega))
      have HP4 := Lib.hid (pickS (w0.heap.size + 1) w0.heap.size a1 c1 p4 2 zs w4 hs4 (by omega) (by omega) (by omega))
      clear hs4 hw4
      go_wp2_with fail
      refine HP4.out.mono ?_
      rintro e w5 ⟨⟨m, hm, rfl⟩, hs5, hw5⟩
      have HB5 := Lib.hid (HB4.out.trans (hw5.below (n := w.heap.size) (by omega) (by omega)))
      have HRow5 := Lib.hid (RowO.wr HRow4.out hw5 (by omega))
      obtain ⟨x0, x1, x2, x3, x4⟩ := HK4.out.wr hw5 (by omega)
      clear hs5 hw5 HP4
      go_wp2
      refine bodyPost_ret (v := .tuple #[.slice A os.length c, .agg #[.int .i64 s, .int .i64 t], .bool ((m : Int) == 0)]) (by simp [results, Try.results71, go_sem, x1, x2]) rfl ⟨⟨A, c, os, s, t, _, rfl, ?_, hlen, HT.out⟩, ?_⟩
      · exact rowO_lower (RowO.wr (R := w.heap.size) HRow5.out ((Wr.set _ _ _ _).trans (Wr.set _ _ _ _)) (by omega)) (by omega)
      · exact (HB5.out.setCell (Nat.le_refl _) _).setCell (Nat.le_refl _) _
    · have e1 : ((k : Int) == 0) = false := beq_false_of_ne (by omega)
      rcases HRow3.out with ⟨_, h2⟩ | ⟨g, rfl, hg, hown⟩
      · omega
      have HO := Lib.hid hown
      have HPD := Lib.hid (pickS (w0.heap.size + 1) w0.heap.size a1 c1 (p + 1) os.length zs w3.drew (RS.keep HS3.out fun _ _ => rfl) (by omega) (by omega) (by omega))
      have HKD := Lib.hid (show Res w.heap.size w3.drew from HK3.out)
      have HOD := Lib.hid (show OwnO w3.drew g c os.length (fun i => os.getD i zop) from OwnO.of_block HO.out rfl)
      have HBD := Lib.hid (HB3.out.drew)
      clear hown h1
      go_wp2
      go_region_with (first
        | (have hMark2 := hMark; go_at_call 60; refine (pickS (w0.heap.size + 1) w0.heap.size a1 c1 (p + 1 + 1) 3 zs w4 HS4.out (by omega) (by omega) (by omega)).mono ?_; rintro e w5 ⟨⟨u, hu, rfl⟩, hs5, hw5⟩; have HK5 := Lib.hid (HK4.out.wr hw5 (by omega)); have HO5 := Lib.hid (HO4.out.of_block (hw5.block g HO4.out.lt (by omega))); have HB5 := Lib.hid (HB4.out.trans (hw5.below (n := w.heap.size) (by omega) (by omega))); obtain ⟨v0, v1, _⟩ := c12 (show w5.rangeAt g (m * 12) (opL q) from (by rw [HQ.out]; exact HO5.out.range hm)); obtain ⟨x0, x1, x2, x3, x4⟩ := HK5.out; have z5 : w4.heap.size ≤ w5.heap.size := hw5.size; clear hs5 hw5)
        | (go_at_call 60; refine HPD.out.mono ?_; rintro e w4 ⟨⟨m, hm, rfl⟩, hs4, hw4⟩; have HK4 := Lib.hid (HKD.out.wr hw4 (by omega)); have HO4 := Lib.hid (HOD.out.of_block (hw4.block g HOD.out.lt (by omega))); have HB4 := Lib.hid (HBD.out.trans (hw4.below (n := w.heap.size) (by show w.heap.size ≤ w3.heap.size; omega) (by omega))); obtain ⟨q, hq⟩ : ∃ q, q = os.getD m zop := ⟨_, rfl⟩; obtain ⟨q0, q1, _⟩ := c12 (show w4.rangeAt g (m * 12) (opL q) from by rw [hq]; exact HO4.out.range hm); have z4 : w3.heap.size ≤ w4.heap.size := hw4.size; have m0 : (0 : Int) ≤ (m : Int) := Int.natCast_nonneg _; have m1 : (m : Int) < (os.length : Int) := (by omega); have HS4 := Lib.hid hs4; have HQ := Lib.hid hq; clear hq hs4 hw4; have hMark := True.intro))
      all_goals
        go_wp2
        refine bodyPost_ret (v := .tuple #[.slice (some ⟨g, 0, none⟩) os.length c, .agg #[.int .i64 q.i, .int .i64 q.j], .bool ((u : Int) == 0)]) (by simp [results, Try.results71, go_sem, x1, x2]) rfl ⟨⟨_, c, os, q.i, q.j, _, rfl, ?_, hlen, HT.out⟩, ?_⟩
        · exact rowO_lower (RowO.wr (R := w.heap.size) (.inr ⟨g, rfl, hg, HO5.out⟩) ((Wr.set _ _ _ _).trans (Wr.set _ _ _ _)) (by omega)) (by omega)
        · exact (HB5.out.setCell (Nat.le_refl _) _).setCell (Nat.le_refl _) _

set_option maxRecDepth 200000 in
set_option maxHeartbeats 4000000 in
theorem drawWithout (a : Option Addr) (cap : Nat) (xs : List Int) (w : World) (rx : RdB w a xs) (hx : xs.length ≤ cap) :
    Calls Try.prog 25 #[.slice a xs.length cap] w (DrawnW w) := by
  obtain ⟨w0, hw0⟩ : ∃ w0, w0 = w.alloc (.cells #[.int .i64 0, .int .i64 0] 25) := ⟨_, rfl⟩
  have B0 : Below w.heap.size w w0 := by rw [hw0]; exact (Below.refl _ _).alloc (Nat.le_refl _) _
  have z0 : w.heap.size < w0.heap.size := by rw [hw0]; simp
  have HK0 := Lib.hid (by rw [hw0]; exact Res.new w 25 : Res w.heap.size w0)
  have HD := Lib.hid (drawMake a cap xs w0 (rdb_below rx B0) hx)
  have HW0 := Lib.hid hw0
  have HB0 := Lib.hid B0
  clear rx hw0 B0
  go_enter Try.func25, Try.ntmps25
  go_wp2_with fail
  rw [← HW0.out]
  refine HD.out.mono ?_
  rintro e w1 ⟨⟨A, c, os, s, t, b, rfl, hrow, hlen, ht⟩, b1⟩
  have z1 := b1.size
  have HK1 := Lib.hid (Res.wr (R := w0.heap.size) HK0.out (.of_below b1) (by omega))
  have HB1 := Lib.hid (HB0.out.trans (b1.mono (by omega)))
  have HRow := Lib.hid hrow
  have HT := Lib.hid ht
  obtain ⟨w2, hw2⟩ : ∃ w2, w2 = w1.alloc (.cells #[.int .i64 s, .int .i64 t] 25) := ⟨_, rfl⟩
  have b2 : Below w1.heap.size w1 w2 := by rw [hw2]; exact (Below.refl _ _).alloc (Nat.le_refl _) _
  have y0 : w2.cell? ⟨w1.heap.size, 0, none⟩ = some (.int .i64 s) := by rw [hw2]; simp [go_sem]
  have y1 : w2.cell? ⟨w1.heap.size, 1, none⟩ = some (.int .i64 t) := by rw [hw2]; simp [go_sem]
  have HK2 := Lib.hid (Res.wr (R := w1.heap.size) HK1.out (.of_below b2) (by have := HK1.out.1; omega))
  have HB2 := Lib.hid (HB1.out.trans (b2.mono (by omega)))
  have HRow2 := Lib.hid (RowO.wr (R := w.heap.size) HRow.out (.of_below b2) (by omega))
  have HW2 := Lib.hid hw2
  obtain ⟨x0, x1, x2, x3, x4⟩ := HK2.out
  have hne : w.heap.size < w1.heap.size := HK1.out.1
  clear hrow ht hw2 b2 b1 HD HK0 HK1 HK2 HB0 HB1 HRow
  go_wp2
  rw [← HW2.out]
  go_region
  go_wp2
  refine bodyPost_ret (v := .tuple #[.slice A os.length c, .agg #[.int .i64 s, .int .i64 t]]) (by simp [results, Try.results25, go_sem, x1, x2]) rfl ⟨⟨A, c, os, s, t, rfl, ?_, hlen, HT.out⟩, ?_⟩
  · exact rowO_lower (RowO.wr (R := w.heap.size) HRow2.out (((Wr.refl _ w2).drew.trans (Wr.set _ _ _ _)).trans (Wr.set _ _ _ _)) (by omega)) (by omega)
  · exact (HB2.out.drew.setCell (Nat.le_refl _) _).setCell (Nat.le_refl _) _

end Go.Proofs.Ytlogpbejfifgdaa.LdA
