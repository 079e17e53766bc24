/-
  The reader: randomStamp, anyStamp, newReader and DrawStampLess: they give some stamps, and write nothing that was there but the reader. For every reader whose position is at most 999000.
-/
import Derived.Test.YtmhflifaeplalaaRdB
namespace Go.Proofs.Ytmhflifaeplalaa.RdC
open Go.RowKit Go.Proofs.Ytmhflifaeplalaa.Base Go.Proofs.Ytmhflifaeplalaa.RdA Go.Proofs.Ytmhflifaeplalaa.RdB

/-- The result's own box of two zeros, not yet written. -/
def Res (k : Nat) (W : World) : Prop :=
  k < W.heap.size ∧ W.cell? ⟨k, 0, none⟩ = some (.int .i64 0) ∧ W.cell? ⟨k, 1, none⟩ = some (.int .i64 0) ∧ W.frozen? ⟨k, 0, none⟩ = false ∧ W.frozen? ⟨k, 1, none⟩ = false
theorem Res.new (w : World) (T : TypeId) : Res w.heap.size (w.alloc (.cells #[.int .i64 0, .int .i64 0] T)) := by
  refine ⟨by simp, ?_⟩
  simp [go_sem]
theorem Res.wr {k R : Nat} {W W' : World} (h : Res k W) (hw : Wr R W W') (hne : k ≠ R) : Res k W' := by
  obtain ⟨h0, h1, h2, h3, h4⟩ := h
  exact ⟨Nat.lt_of_lt_of_le h0 hw.size, (hw.cell h0 hne).trans h1, (hw.cell h0 hne).trans h2, (hw.frozen h0 hne).trans h3, (hw.frozen h0 hne).trans h4⟩
theorem Res.alloc {k : Nat} {W : World} (h : Res k W) (o : Obj) : Res k (W.alloc o) := h.wr (R := k + 1) ((Wr.refl _ _).alloc o) (by omega)

/-- What a call that draws from a reader and returns one stamp does. -/
def Draws (n R : Nat) (a : Option Addr) (cap q : Nat) (zs : List Int) (w : World) (e : Ending) (w' : World) : Prop :=
  (∃ s t : Int, e = .returned (.agg #[.int .i64 s, .int .i64 t])) ∧ (∃ p', p' ≤ q ∧ RS n w' R a cap p' zs) ∧ Wr R w w'

theorem randomStamp (n R : Nat) (a : Option Addr) (cap p : Nat) (zs : List Int) (w : World) (h : RS n w R a cap p zs) (hp : p ≤ 999000) (hn : n ≤ w.heap.size) :
    Calls Try.prog 107 #[.pointer (some ⟨R, 0, none⟩)] w (Draws n R a cap (p + 2) zs w) := by
  have hR : R < n := h.2.1
  have H := Lib.hid h
  have S0 := Lib.hid (Res.new w 36)
  clear h
  go_enter Try.func107, Try.ntmps107
  go_wp2_with fail
  refine (one n R a cap p zs _ (H.out.below ?_) (by omega) (w.heap.size + 1) 6 (fun i => [1, 2, 3, 5, 9, 99].getD i 0) ?_ (by omega) (by simp) (by omega) (by omega)).mono ?_
  · exact (((Below.refl n w).alloc hn _).alloc (by simp; omega) _)
  · intro i hi
    obtain rfl | rfl | rfl | rfl | rfl | rfl : i = 0 ∨ i = 1 ∨ i = 2 ∨ i = 3 ∨ i = 4 ∨ i = 5 := by omega
    all_goals simp [go_sem]
  rintro e w1 ⟨⟨v, rfl⟩, hs1, hw1⟩
  have S1 := (S0.out.alloc _).wr hw1 (by omega)
  have W1 : Wr R w w1 := (((Wr.refl R w).alloc _).alloc _).trans hw1
  clear hw1
  obtain ⟨hz1, c10, c11, f10, f11⟩ := id S1
  go_wp2_with fail
  refine (pickS n R a cap (p + 1) 3 zs _ hs1 (by omega) (by omega) (by omega)).mono ?_
  rintro e w2 ⟨⟨m, hm, rfl⟩, hs2, hw2⟩
  have S2 := S1.wr hw2 (by omega)
  have W2 : Wr R w w2 := W1.trans hw2
  clear hw2 c10 c11 f10 f11 hs1 hz1 S1
  obtain ⟨hz2, c20, c21, f20, f21⟩ := S2
  have HS2 := Lib.hid hs2
  clear hs2
  go_wp2
  refine bodyPost_ret (v := .agg #[.int .i64 v, .int .i64 m]) (by simp [results, Try.results107, go_sem, c20, c21]) rfl ⟨⟨_, _, rfl⟩, ⟨p + 1 + 1, by omega, (HS2.out.setNew hn _).setNew hn _⟩, (W2.setNew (Nat.le_refl _) _).setNew (Nat.le_refl _) _⟩

theorem anyStamp (n R : Nat) (a : Option Addr) (cap p : Nat) (zs : List Int) (w : World) (h : RS n w R a cap p zs) (hp : p ≤ 998000) (hn : n ≤ w.heap.size) :
    Calls Try.prog 90 #[.pointer (some ⟨R, 0, none⟩)] w (Draws n R a cap (p + 3) zs w) := by
  have hR : R < n := h.2.1
  have H := Lib.hid h
  have S0 := Lib.hid (Res.new w 36)
  clear h
  go_enter Try.func90, Try.ntmps90
  go_wp2_with fail
  refine (pickS n R a cap p 8 zs _ (H.out.below ((Below.refl n w).alloc hn _)) (by omega) (by omega) (by omega)).mono ?_
  rintro e w1 ⟨⟨m, hm, rfl⟩, hs1, hw1⟩
  have S1 := S0.out.wr hw1 (by omega)
  have W1 : Wr R w w1 := ((Wr.refl R w).alloc _).trans hw1
  clear hw1
  obtain ⟨hz1, c10, c11, f10, f11⟩ := id S1
  have HS1 := Lib.hid hs1
  clear hs1
  by_cases m0 : m = 0
  · subst m0
    go_wp2
    refine bodyPost_ret (v := .agg #[.int .i64 0, .int .i64 0]) (by simp [results, Try.results90, go_sem, c10, c11]) rfl ⟨⟨_, _, rfl⟩, ⟨p + 1, by omega, (HS1.out.setNew hn _).setNew hn _⟩, (W1.setNew (Nat.le_refl _) _).setNew (Nat.le_refl _) _⟩
  · by_cases m1 : m = 1
    · subst m1
      go_wp2_with fail
      refine (one n R a cap (p + 1) zs _ (HS1.out.below ((Below.refl n w1).alloc (by omega) _)) (by omega) w1.heap.size 3 (fun i => [0, 100, -1].getD i 0) ?_ (by omega) (by simp) (by omega) (by omega)).mono ?_
      · intro i hi
        obtain rfl | rfl | rfl : i = 0 ∨ i = 1 ∨ i = 2 := by omega
        all_goals simp [go_sem]
      rintro e w2 ⟨⟨v, rfl⟩, hs2, hw2⟩
      have S2 := (S1.alloc _).wr hw2 (by omega)
      have W2 : Wr R w w2 := (W1.alloc _).trans hw2
      clear hw2 c10 c11 f10 f11 hz1 S1
      obtain ⟨hz2, c20, c21, f20, f21⟩ := id S2
      go_wp2_with fail
      refine (pickS n R a cap (p + 1 + 1) 3 zs _ hs2 (by omega) (by omega) (by omega)).mono ?_
      rintro e w3 ⟨⟨m, hm, rfl⟩, hs3, hw3⟩
      have S3 := S2.wr hw3 (by omega)
      have W3 : Wr R w w3 := W2.trans hw3
      clear hw3 c20 c21 f20 f21 hz2 S2 hs2
      obtain ⟨hz3, c30, c31, f30, f31⟩ := S3
      have HS3 := Lib.hid hs3
      clear hs3
      go_wp2
      refine bodyPost_ret (v := .agg #[.int .i64 v, .int .i64 m]) (by simp [results, Try.results90, go_sem, c30, c31]) rfl ⟨⟨_, _, rfl⟩, ⟨p + 1 + 1 + 1, by omega, (HS3.out.setNew hn _).setNew hn _⟩, (W3.setNew (Nat.le_refl _) _).setNew (Nat.le_refl _) _⟩
    · by_cases m2 : m = 2
      · subst m2
        go_wp2_with fail
        refine (one n R a cap (p + 1) zs _ (HS1.out.below ((Below.refl n w1).alloc (by omega) _)) (by omega) w1.heap.size 2 (fun i => [3, -1].getD i 0) ?_ (by omega) (by simp) (by omega) (by omega)).mono ?_
        · intro i hi
          obtain rfl | rfl : i = 0 ∨ i = 1 := by omega
          all_goals simp [go_sem]
        rintro e w2 ⟨⟨v, rfl⟩, hs2, hw2⟩
        have S2 := (S1.alloc _).wr hw2 (by omega)
        have W2 : Wr R w w2 := (W1.alloc _).trans hw2
        clear hw2 c10 c11 f10 f11 hz1 S1
        obtain ⟨hz2, c20, c21, f20, f21⟩ := id S2
        have HS2 := Lib.hid hs2
        clear hs2
        go_wp2
        refine bodyPost_ret (v := .agg #[.int .i64 4, .int .i64 v]) (by simp [results, Try.results90, go_sem, c20, c21]) rfl ⟨⟨_, _, rfl⟩, ⟨p + 1 + 1, by omega, (HS2.out.setNew hn _).setNew hn _⟩, (W2.setNew (Nat.le_refl _) _).setNew (Nat.le_refl _) _⟩
      · have b0 : ¬ ((m : Int) = 0) := by omega
        have b1 : ¬ ((m : Int) = 1) := by omega
        have b2 : ¬ ((m : Int) = 2) := by omega
        go_wp2_with fail
        refine (randomStamp n R a cap (p + 1) zs _ HS1.out (by omega) (by omega)).mono ?_
        rintro e w2 ⟨⟨s, t, rfl⟩, ⟨p', hp', hs2⟩, hw2⟩
        have S2 := S1.wr hw2 (by omega)
        have W2 : Wr R w w2 := W1.trans hw2
        clear hw2 c10 c11 f10 f11 hz1 S1
        obtain ⟨hz2, c20, c21, f20, f21⟩ := id S2
        have HS2 := Lib.hid hs2
        clear hs2
        go_wp2
        refine bodyPost_ret (v := .agg #[.int .i64 s, .int .i64 t]) (by simp [results, Try.results90, go_sem, c20, c21]) rfl ⟨⟨_, _, rfl⟩, ⟨p', by omega, (HS2.out.setNew hn _).setNew hn _⟩, (W2.setNew (Nat.le_refl _) _).setNew (Nat.le_refl _) _⟩

end Go.Proofs.Ytmhflifaeplalaa.RdC
