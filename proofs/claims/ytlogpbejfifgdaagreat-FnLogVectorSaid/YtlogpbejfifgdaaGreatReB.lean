/-
  nextEdit of the reader: it gives some operation with a short text, and writes nothing that was there but the reader. For every reader whose position is at most 800000 and every slice that reads as a list of at most 10^6 operations.
-/
import Derived.Test.YtlogpbejfifgdaaGreatK6
import Derived.Test.YtlogpbejfifgdaaGreatK1
namespace Go.Proofs.YtlogpbejfifgdaaGreat.ReB
open Go.RowKit Go.Proofs.YtlogpbejfifgdaaGreat.Base Go.Proofs.YtlogpbejfifgdaaGreat.OpA Go.Proofs.YtlogpbejfifgdaaGreat.OpB Go.Proofs.YtlogpbejfifgdaaGreat.LgA Go.Proofs.YtlogpbejfifgdaaGreat.LgB Go.Proofs.YtlogpbejfifgdaaGreat.LgC Go.Proofs.YtlogpbejfifgdaaGreat.LgF Go.Proofs.YtlogpbejfifgdaaGreat.LgN Go.Proofs.YtlogpbejfifgdaaGreat.RdA Go.Proofs.YtlogpbejfifgdaaGreat.RdB Go.Proofs.YtlogpbejfifgdaaGreat.RdC Go.Proofs.YtlogpbejfifgdaaGreat.RdD Go.Proofs.YtlogpbejfifgdaaGreat.RgB Go.Proofs.YtlogpbejfifgdaaGreat.RgC Go.Proofs.YtlogpbejfifgdaaGreat.RgD Go.Proofs.YtlogpbejfifgdaaGreat.ReA
set_option linter.unusedVariables false

theorem ints (L : List Int) : ∃ xs : Nat → Int, ∀ i, i < L.length → ((L.map (Value.int .i64)).toArray)[i]? = some (.int .i64 (xs i)) :=
  ⟨fun i => L.getD i 0, fun i hi => by simp [List.getD_eq_getElem?_getD, hi]⟩
theorem strs (L : List ByteArray) (h : ∀ x ∈ L, x.size ≤ 8) : ∃ xs : Nat → ByteArray, ∀ i, i < L.length → ((L.map Value.string).toArray)[i]? = some (.string (xs i)) ∧ (xs i).size ≤ 8 :=
  ⟨fun i => L.getD i ByteArray.empty, fun i hi => by
    simp only [List.getD_eq_getElem?_getD, hi, List.getElem?_eq_getElem, Option.getD_some, List.getElem?_toArray, List.getElem?_map, Option.map_some, true_and]
    exact h _ (List.getElem_mem hi)⟩

theorem fin {n R : Nat} {a : Option Addr} {cap P Q : Nat} {zs : List Int} {w w' : World} (h : (∃ p, p ≤ P ∧ RS n w' R a cap p zs) ∧ Wr R w w') (hq : P ≤ Q) : (∃ p, p ≤ Q ∧ RS n w' R a cap p zs) ∧ Wr R w w' := by
  obtain ⟨⟨p, hp, hs⟩, hw⟩ := h
  exact ⟨⟨p, by omega, hs⟩, hw⟩

set_option maxRecDepth 200000 in
set_option maxHeartbeats 20000000 in
theorem nextEdit (n R : Nat) (a : Option Addr) (cap p : Nat) (zs : List Int) (w : World) (h : RS n w R a cap p zs) (hp : p ≤ 800000) (hn : n ≤ w.heap.size) (A : Option Addr) (c : Nat) (os : List OpV) (hr : RdO w A os) (hl : os.length ≤ 1000000) :
    Calls Tryz.prog 55 #[.pointer (some ⟨R, 0, none⟩), .slice A os.length c] w (Edit n R a cap (p + 20) zs w) := by
  have hR : R < n := h.2.1
  have hA : os ≠ [] → ∀ b, blkA A = some b → b < w.heap.size ∧ b ≠ R := by
    intro he b hb
    rcases hr with h0 | ⟨b', off, rfl, hc⟩
    · exact absurd h0 he
    · obtain rfl : b' = b := by simpa [blkA] using hb
      have h0 : 0 < os.length := List.length_pos_iff.2 he
      have hrg := hc 0 h0
      refine ⟨rangeAt_lt hrg, ?_⟩
      rintro rfl
      obtain ⟨_, _, c2, _⟩ := c12 hrg
      have hcl := h.1
      have : w.cell? ⟨b', off + 0 * 12 + 2, none⟩ = none ∨ (w.cell? ⟨b', off + 0 * 12 + 2, none⟩ = none) := by
        left
        simp [World.cell?, show w.heap[b']? = _ from hcl]
      rcases this with h | h <;> rw [h] at c2 <;> cases c2
  have B1 := Lib.hid (((Below.refl w.heap.size w).alloc (Nat.le_refl _) (.cells #[.int .i64 0, .int .i64 0, .int .i64 0, .int .i64 0, .int .i64 0, .int .i64 0, .int .i64 0, .int .i64 0, .int .i64 0, .int .i64 0, .bool false, .string ByteArray.empty] 39)).alloc (by simp) (.cells #[.int .i64 0, .int .i64 0, .int .i64 0, .int .i64 0, .int .i64 0, .int .i64 0, .int .i64 0, .int .i64 0, .int .i64 0, .int .i64 0, .bool false, .string ByteArray.empty] 39))
  have X0 := Lib.hid (box_new w zop)
  have X1 := Lib.hid (box_new (w.alloc (.cells #[.int .i64 0, .int .i64 0, .int .i64 0, .int .i64 0, .int .i64 0, .int .i64 0, .int .i64 0, .int .i64 0, .int .i64 0, .int .i64 0, .bool false, .string ByteArray.empty] 39)) zop)
  have HS := Lib.hid h
  have HA := Lib.hid hA
  have HR := Lib.hid hr
  clear h hA hr
  go_enter Tryz.func55, Tryz.ntmps55
  go_wp2_with fail
  refine (pickOfKind n R a cap p zs _ (HS.out.below (B1.out.mono hn)) (by omega) (by simp; omega) A c os 4 (HR.out.below B1.out) hl).mono ?_
  rintro e w1 ⟨⟨s, t, rfl, _⟩, ⟨p1, hp1, hs1⟩, hw1⟩
  have K0 : Box w1 w.heap.size zop := Box.wr (Box.grown X0.out (World.grownBy_alloc _ _ none) (by simp)) hw1 (by omega)
  have K1 : Box w1 (w.heap.size + 1) zop := by
    have := Box.wr X1.out hw1 (by simp; omega)
    simpa using this
  have W1 : Wr R w w1 := (Wr.of_below B1.out).trans hw1
  have L1 : RdO w1 A os := by
    by_cases he : os = []
    · exact .inl he
    · exact RdO.of_blocks HR.out fun b hb hlt => W1.block b hlt (HA.out he b hb).2
  have hz1 : w.heap.size + 2 ≤ w1.heap.size := by have := hw1.size; simp at this; omega
  have HS1 := Lib.hid hs1
  have HK := Lib.hid (And.intro K0 (And.intro K1 (And.intro W1 L1)))
  clear hs1 K0 K1 W1 L1 hw1 B1 X0 X1
  have BA := Lib.hid ((Below.refl w1.heap.size w1).alloc (Nat.le_refl _) (.cells #[.int .i64 s, .int .i64 t] 37))
  go_wp2_with fail
  refine (pickOfKind n R a cap p1 zs _ (HS1.out.below (BA.out.mono (by omega))) (by omega) (by simp; omega) A c os 1 (HK.out.2.2.2.below BA.out) hl).mono ?_
  rintro e w2 ⟨⟨u, v, rfl, hid⟩, ⟨p2, hp2, hs2⟩, hw2⟩
  have HID := Lib.hid hid
  have ns : NS ⟨n, R, a, cap, zs, A, os, w.heap.size, w.heap.size + 1, w1.heap.size, w2.heap.size, s, t, u, v, w⟩ (p + 4) (w2.alloc (.cells #[.int .i64 u, .int .i64 v] 37)) := by
    obtain ⟨K0, K1, W1, L1⟩ := HK.out
    have hW := (W1.alloc (.cells #[.int .i64 s, .int .i64 t] 37)).trans hw2
    have hb2 : (w1.alloc (.cells #[.int .i64 s, .int .i64 t] 37)).heap.size ≤ w2.heap.size := hw2.size
    simp at hb2
    have aB := Below.alloc (Below.refl w2.heap.size w2) (Nat.le_refl _) (.cells #[.int .i64 u, .int .i64 v] 37)
    have hw1x : Wr R w1 w2 := ((Wr.refl R w1).alloc _).trans hw2
    refine { ok := ⟨hn, hR, Nat.le_refl _, by simp, by show w.heap.size ≤ w1.heap.size; omega, by show w.heap.size ≤ w2.heap.size; omega, by show w.heap.size ≠ w.heap.size + 1; omega, by show w1.heap.size ≠ w.heap.size + 1; omega, by show w2.heap.size ≠ w.heap.size + 1; omega, HA.out, hl⟩, rs := ⟨p2, by omega, hs2.below (aB.mono (by show n ≤ w2.heap.size; omega))⟩, o := ⟨zop, ?_, by decide⟩, r := ?_, b := ?_, c := Bx.new w2 u v _, l := ?_, wr := hW.alloc _ }
    · exact Box.grown (K1.wr hw1x (by omega)) (World.grownBy_alloc _ _ none) (by simp)
    · exact Box.grown (K0.wr hw1x (by omega)) (World.grownBy_alloc _ _ none) (by simp)
    · have b0 : Bx w1.heap.size s t w2 := (Bx.new w1 s t _).of_block hw2.size (hw2.block _ (by simp) (by omega))
      exact b0.of_block (by simp) (aB.block _ b0.1)
    · have l2 : RdO w2 A os := by
        by_cases he : os = []
        · exact .inl he
        · exact RdO.of_blocks L1 fun b hb hlt => hw1x.block b hlt (HA.out he b hb).2
      exact l2.below aB
  have HR0 := Lib.hid HR.out
  clear hs2 hw2 HK HS1 BA hid HS HR
  have NS0 := Lib.hid ns
  have HRL := Lib.hid HR0.out
  clear ns HR0
  go_wp2_with fail
  refine (nsPick ⟨n, R, a, cap, zs, A, os, w.heap.size, w.heap.size + 1, w1.heap.size, w2.heap.size, s, t, u, v, w⟩ _ 16 _ NS0.out (by omega) (by omega) (by omega)).mono ?_
  rintro e w3 ⟨⟨m, hm, rfl⟩, ns⟩
  clear NS0
  rcases (show m = 0 ∨ m = 1 ∨ m = 2 ∨ m = 3 ∨ m = 4 ∨ m = 5 ∨ m = 6 ∨ m = 7 ∨ m = 8 ∨ m = 9 ∨ (m = 10 ∨ m = 11) ∨ (m = 12 ∨ m = 13 ∨ m = 14 ∨ m = 15) by omega) with rfl | rfl | rfl | rfl | rfl | rfl | rfl | rfl | rfl | rfl | h10 | h12
  · go_wp2_with (first
      | (refine nsInt (X := ⟨n, R, a, cap, zs, A, os, w.heap.size, w.heap.size + 1, w1.heap.size, w2.heap.size, s, t, u, v, w⟩) rfl _ _ rfl rfl rfl (by decide) (by assumption) ?_; intro wn nsn)
      | (refine nsSt (X := ⟨n, R, a, cap, zs, A, os, w.heap.size, w.heap.size + 1, w1.heap.size, w2.heap.size, s, t, u, v, w⟩) rfl _ _ rfl rfl rfl (by decide) (by assumption) ?_; intro wn nsn)
      | (refine nsBool (X := ⟨n, R, a, cap, zs, A, os, w.heap.size, w.heap.size + 1, w1.heap.size, w2.heap.size, s, t, u, v, w⟩) rfl _ _ rfl rfl rfl (by assumption) ?_; intro wn nsn)
      | (refine nsStr (X := ⟨n, R, a, cap, zs, A, os, w.heap.size, w.heap.size + 1, w1.heap.size, w2.heap.size, s, t, u, v, w⟩) rfl _ _ rfl rfl rfl (by assumption) (by assumption) ?_; intro wn nsn)
      | (refine loadSt (b := w1.heap.size) (o := 0) (s := s) (t := t) rfl _ rfl rfl (Bx.range (NS.b (X := ⟨n, R, a, cap, zs, A, os, w.heap.size, w.heap.size + 1, w1.heap.size, w2.heap.size, s, t, u, v, w⟩) (by assumption))) ?_)
      | (refine loadSt (b := w2.heap.size) (o := 0) (s := u) (t := v) rfl _ rfl rfl (Bx.range (NS.c (X := ⟨n, R, a, cap, zs, A, os, w.heap.size, w.heap.size + 1, w1.heap.size, w2.heap.size, s, t, u, v, w⟩) (by assumption))) ?_)
      | (refine nsLoad (X := ⟨n, R, a, cap, zs, A, os, w.heap.size, w.heap.size + 1, w1.heap.size, w2.heap.size, s, t, u, v, w⟩) rfl _ rfl rfl (by assumption) ?_; intro oo ht)
      | (refine nsRes (X := ⟨n, R, a, cap, zs, A, os, w.heap.size, w.heap.size + 1, w1.heap.size, w2.heap.size, s, t, u, v, w⟩) (o := oo) rfl _ _ rfl rfl rfl (by assumption) ?_; intro wf Cf Ef)
      | (go_at_call 43; refine (nsPickZ ⟨n, R, a, cap, zs, A, os, w.heap.size, w.heap.size + 1, w1.heap.size, w2.heap.size, s, t, u, v, w⟩ _ _ _ (by assumption) (by omega) (by decide) (by decide)).mono ?_; rintro e wn ⟨⟨x, hx, rfl⟩, nsn⟩)
      | (go_at_call 65; refine (nsKind ⟨n, R, a, cap, zs, A, os, w.heap.size, w.heap.size + 1, w1.heap.size, w2.heap.size, s, t, u, v, w⟩ _ _ _ _ (by assumption) (by omega)).mono ?_; rintro e wn ⟨⟨x, y, rfl⟩, nsn⟩)
      | (go_at_call 44; refine (nsOne ⟨n, R, a, cap, zs, A, os, w.heap.size, w.heap.size + 1, w1.heap.size, w2.heap.size, s, t, u, v, w⟩ _ _ _ _ _ (by assumption) (by omega) (by decide) (by decide) (by first | exact ints [1, 1, 2, 3, 4] | exact ints [97, 98, 99, 32, 60, 38])).mono ?_; rintro e wn ⟨⟨x, rfl⟩, nsn⟩)
      | (go_at_call 66; refine (nsOf ⟨n, R, a, cap, zs, A, os, w.heap.size, w.heap.size + 1, w1.heap.size, w2.heap.size, s, t, u, v, w⟩ _ _ _ _ _ (by assumption) (by omega) (by decide) (by decide) (by first | exact strs [⟨#[119, 104, 121]⟩, ⟨#[103, 111, 111, 100]⟩] (by decide) | exact strs [⟨#[121, 101, 115]⟩, ⟨#[110, 111]⟩] (by decide))).mono ?_; rintro e wn ⟨⟨x, hx8, rfl⟩, nsn⟩))
    all_goals (obtain ⟨d0, d1, d2, d3, d4, d5, d6, d7, d8, d9, d10, d11⟩ := Cf; exact bodyPost_ret (v := .agg #[.int .i64 oo.i, .int .i64 oo.j, .int .i64 oo.k, .int .i64 oo.ts, .int .i64 oo.ta, .int .i64 oo.fs, .int .i64 oo.fa, .int .i64 oo.ns, .int .i64 oo.na, .int .i64 oo.v, .bool oo.en, .string oo.tx]) (by simp [results, Tryz.results55, go_sem, d0, d1, d2, d3, d4, d5, d6, d7, d8, d9, d10, d11]) rfl ⟨⟨oo, rfl, ht⟩, fin Ef (by omega)⟩)
  · go_wp2_with (first
      | (refine nsInt (X := ⟨n, R, a, cap, zs, A, os, w.heap.size, w.heap.size + 1, w1.heap.size, w2.heap.size, s, t, u, v, w⟩) rfl _ _ rfl rfl rfl (by decide) (by assumption) ?_; intro wn nsn)
      | (refine nsSt (X := ⟨n, R, a, cap, zs, A, os, w.heap.size, w.heap.size + 1, w1.heap.size, w2.heap.size, s, t, u, v, w⟩) rfl _ _ rfl rfl rfl (by decide) (by assumption) ?_; intro wn nsn)
      | (refine nsBool (X := ⟨n, R, a, cap, zs, A, os, w.heap.size, w.heap.size + 1, w1.heap.size, w2.heap.size, s, t, u, v, w⟩) rfl _ _ rfl rfl rfl (by assumption) ?_; intro wn nsn)
      | (refine nsStr (X := ⟨n, R, a, cap, zs, A, os, w.heap.size, w.heap.size + 1, w1.heap.size, w2.heap.size, s, t, u, v, w⟩) rfl _ _ rfl rfl rfl (by assumption) (by assumption) ?_; intro wn nsn)
      | (refine loadSt (b := w1.heap.size) (o := 0) (s := s) (t := t) rfl _ rfl rfl (Bx.range (NS.b (X := ⟨n, R, a, cap, zs, A, os, w.heap.size, w.heap.size + 1, w1.heap.size, w2.heap.size, s, t, u, v, w⟩) (by assumption))) ?_)
      | (refine loadSt (b := w2.heap.size) (o := 0) (s := u) (t := v) rfl _ rfl rfl (Bx.range (NS.c (X := ⟨n, R, a, cap, zs, A, os, w.heap.size, w.heap.size + 1, w1.heap.size, w2.heap.size, s, t, u, v, w⟩) (by assumption))) ?_)
      | (refine nsLoad (X := ⟨n, R, a, cap, zs, A, os, w.heap.size, w.heap.size + 1, w1.heap.size, w2.heap.size, s, t, u, v, w⟩) rfl _ rfl rfl (by assumption) ?_; intro oo ht)
      | (refine nsRes (X := ⟨n, R, a, cap, zs, A, os, w.heap.size, w.heap.size + 1, w1.heap.size, w2.heap.size, s, t, u, v, w⟩) (o := oo) rfl _ _ rfl rfl rfl (by assumption) ?_; intro wf Cf Ef)
      | (go_at_call 43; refine (nsPickZ ⟨n, R, a, cap, zs, A, os, w.heap.size, w.heap.size + 1, w1.heap.size, w2.heap.size, s, t, u, v, w⟩ _ _ _ (by assumption) (by omega) (by decide) (by decide)).mono ?_; rintro e wn ⟨⟨x, hx, rfl⟩, nsn⟩)
      | (go_at_call 65; refine (nsKind ⟨n, R, a, cap, zs, A, os, w.heap.size, w.heap.size + 1, w1.heap.size, w2.heap.size, s, t, u, v, w⟩ _ _ _ _ (by assumption) (by omega)).mono ?_; rintro e wn ⟨⟨x, y, rfl⟩, nsn⟩)
      | (go_at_call 44; refine (nsOne ⟨n, R, a, cap, zs, A, os, w.heap.size, w.heap.size + 1, w1.heap.size, w2.heap.size, s, t, u, v, w⟩ _ _ _ _ _ (by assumption) (by omega) (by decide) (by decide) (by first | exact ints [1, 1, 2, 3, 4] | exact ints [97, 98, 99, 32, 60, 38])).mono ?_; rintro e wn ⟨⟨x, rfl⟩, nsn⟩)
      | (go_at_call 66; refine (nsOf ⟨n, R, a, cap, zs, A, os, w.heap.size, w.heap.size + 1, w1.heap.size, w2.heap.size, s, t, u, v, w⟩ _ _ _ _ _ (by assumption) (by omega) (by decide) (by decide) (by first | exact strs [⟨#[119, 104, 121]⟩, ⟨#[103, 111, 111, 100]⟩] (by decide) | exact strs [⟨#[121, 101, 115]⟩, ⟨#[110, 111]⟩] (by decide))).mono ?_; rintro e wn ⟨⟨x, hx8, rfl⟩, nsn⟩))
    all_goals (obtain ⟨d0, d1, d2, d3, d4, d5, d6, d7, d8, d9, d10, d11⟩ := Cf; exact bodyPost_ret (v := .agg #[.int .i64 oo.i, .int .i64 oo.j, .int .i64 oo.k, .int .i64 oo.ts, .int .i64 oo.ta, .int .i64 oo.fs, .int .i64 oo.fa, .int .i64 oo.ns, .int .i64 oo.na, .int .i64 oo.v, .bool oo.en, .string oo.tx]) (by simp [results, Tryz.results55, go_sem, d0, d1, d2, d3, d4, d5, d6, d7, d8, d9, d10, d11]) rfl ⟨⟨oo, rfl, ht⟩, fin Ef (by omega)⟩)
  · go_wp2_with (first
      | (refine nsInt (X := ⟨n, R, a, cap, zs, A, os, w.heap.size, w.heap.size + 1, w1.heap.size, w2.heap.size, s, t, u, v, w⟩) rfl _ _ rfl rfl rfl (by decide) (by assumption) ?_; intro wn nsn)
      | (refine nsSt (X := ⟨n, R, a, cap, zs, A, os, w.heap.size, w.heap.size + 1, w1.heap.size, w2.heap.size, s, t, u, v, w⟩) rfl _ _ rfl rfl rfl (by decide) (by assumption) ?_; intro wn nsn)
      | (refine nsBool (X := ⟨n, R, a, cap, zs, A, os, w.heap.size, w.heap.size + 1, w1.heap.size, w2.heap.size, s, t, u, v, w⟩) rfl _ _ rfl rfl rfl (by assumption) ?_; intro wn nsn)
      | (refine nsStr (X := ⟨n, R, a, cap, zs, A, os, w.heap.size, w.heap.size + 1, w1.heap.size, w2.heap.size, s, t, u, v, w⟩) rfl _ _ rfl rfl rfl (by assumption) (by assumption) ?_; intro wn nsn)
      | (refine loadSt (b := w1.heap.size) (o := 0) (s := s) (t := t) rfl _ rfl rfl (Bx.range (NS.b (X := ⟨n, R, a, cap, zs, A, os, w.heap.size, w.heap.size + 1, w1.heap.size, w2.heap.size, s, t, u, v, w⟩) (by assumption))) ?_)
      | (refine loadSt (b := w2.heap.size) (o := 0) (s := u) (t := v) rfl _ rfl rfl (Bx.range (NS.c (X := ⟨n, R, a, cap, zs, A, os, w.heap.size, w.heap.size + 1, w1.heap.size, w2.heap.size, s, t, u, v, w⟩) (by assumption))) ?_)
      | (refine nsLoad (X := ⟨n, R, a, cap, zs, A, os, w.heap.size, w.heap.size + 1, w1.heap.size, w2.heap.size, s, t, u, v, w⟩) rfl _ rfl rfl (by assumption) ?_; intro oo ht)
      | (refine nsRes (X := ⟨n, R, a, cap, zs, A, os, w.heap.size, w.heap.size + 1, w1.heap.size, w2.heap.size, s, t, u, v, w⟩) (o := oo) rfl _ _ rfl rfl rfl (by assumption) ?_; intro wf Cf Ef)
      | (go_at_call 43; refine (nsPickZ ⟨n, R, a, cap, zs, A, os, w.heap.size, w.heap.size + 1, w1.heap.size, w2.heap.size, s, t, u, v, w⟩ _ _ _ (by assumption) (by omega) (by decide) (by decide)).mono ?_; rintro e wn ⟨⟨x, hx, rfl⟩, nsn⟩)
      | (go_at_call 65; refine (nsKind ⟨n, R, a, cap, zs, A, os, w.heap.size, w.heap.size + 1, w1.heap.size, w2.heap.size, s, t, u, v, w⟩ _ _ _ _ (by assumption) (by omega)).mono ?_; rintro e wn ⟨⟨x, y, rfl⟩, nsn⟩)
      | (go_at_call 44; refine (nsOne ⟨n, R, a, cap, zs, A, os, w.heap.size, w.heap.size + 1, w1.heap.size, w2.heap.size, s, t, u, v, w⟩ _ _ _ _ _ (by assumption) (by omega) (by decide) (by decide) (by first | exact ints [1, 1, 2, 3, 4] | exact ints [97, 98, 99, 32, 60, 38])).mono ?_; rintro e wn ⟨⟨x, rfl⟩, nsn⟩)
      | (go_at_call 66; refine (nsOf ⟨n, R, a, cap, zs, A, os, w.heap.size, w.heap.size + 1, w1.heap.size, w2.heap.size, s, t, u, v, w⟩ _ _ _ _ _ (by assumption) (by omega) (by decide) (by decide) (by first | exact strs [⟨#[119, 104, 121]⟩, ⟨#[103, 111, 111, 100]⟩] (by decide) | exact strs [⟨#[121, 101, 115]⟩, ⟨#[110, 111]⟩] (by decide))).mono ?_; rintro e wn ⟨⟨x, hx8, rfl⟩, nsn⟩))
    all_goals (obtain ⟨d0, d1, d2, d3, d4, d5, d6, d7, d8, d9, d10, d11⟩ := Cf; exact bodyPost_ret (v := .agg #[.int .i64 oo.i, .int .i64 oo.j, .int .i64 oo.k, .int .i64 oo.ts, .int .i64 oo.ta, .int .i64 oo.fs, .int .i64 oo.fa, .int .i64 oo.ns, .int .i64 oo.na, .int .i64 oo.v, .bool oo.en, .string oo.tx]) (by simp [results, Tryz.results55, go_sem, d0, d1, d2, d3, d4, d5, d6, d7, d8, d9, d10, d11]) rfl ⟨⟨oo, rfl, ht⟩, fin Ef (by omega)⟩)
  · go_wp2_with (first
      | (refine nsInt (X := ⟨n, R, a, cap, zs, A, os, w.heap.size, w.heap.size + 1, w1.heap.size, w2.heap.size, s, t, u, v, w⟩) rfl _ _ rfl rfl rfl (by decide) (by assumption) ?_; intro wn nsn)
      | (refine nsSt (X := ⟨n, R, a, cap, zs, A, os, w.heap.size, w.heap.size + 1, w1.heap.size, w2.heap.size, s, t, u, v, w⟩) rfl _ _ rfl rfl rfl (by decide) (by assumption) ?_; intro wn nsn)
      | (refine nsBool (X := ⟨n, R, a, cap, zs, A, os, w.heap.size, w.heap.size + 1, w1.heap.size, w2.heap.size, s, t, u, v, w⟩) rfl _ _ rfl rfl rfl (by assumption) ?_; intro wn nsn)
      | (refine nsStr (X := ⟨n, R, a, cap, zs, A, os, w.heap.size, w.heap.size + 1, w1.heap.size, w2.heap.size, s, t, u, v, w⟩) rfl _ _ rfl rfl rfl (by assumption) (by assumption) ?_; intro wn nsn)
      | (refine loadSt (b := w1.heap.size) (o := 0) (s := s) (t := t) rfl _ rfl rfl (Bx.range (NS.b (X := ⟨n, R, a, cap, zs, A, os, w.heap.size, w.heap.size + 1, w1.heap.size, w2.heap.size, s, t, u, v, w⟩) (by assumption))) ?_)
      | (refine loadSt (b := w2.heap.size) (o := 0) (s := u) (t := v) rfl _ rfl rfl (Bx.range (NS.c (X := ⟨n, R, a, cap, zs, A, os, w.heap.size, w.heap.size + 1, w1.heap.size, w2.heap.size, s, t, u, v, w⟩) (by assumption))) ?_)
      | (refine nsLoad (X := ⟨n, R, a, cap, zs, A, os, w.heap.size, w.heap.size + 1, w1.heap.size, w2.heap.size, s, t, u, v, w⟩) rfl _ rfl rfl (by assumption) ?_; intro oo ht)
      | (refine nsRes (X := ⟨n, R, a, cap, zs, A, os, w.heap.size, w.heap.size + 1, w1.heap.size, w2.heap.size, s, t, u, v, w⟩) (o := oo) rfl _ _ rfl rfl rfl (by assumption) ?_; intro wf Cf Ef)
      | (go_at_call 43; refine (nsPickZ ⟨n, R, a, cap, zs, A, os, w.heap.size, w.heap.size + 1, w1.heap.size, w2.heap.size, s, t, u, v, w⟩ _ _ _ (by assumption) (by omega) (by decide) (by decide)).mono ?_; rintro e wn ⟨⟨x, hx, rfl⟩, nsn⟩)
      | (go_at_call 65; refine (nsKind ⟨n, R, a, cap, zs, A, os, w.heap.size, w.heap.size + 1, w1.heap.size, w2.heap.size, s, t, u, v, w⟩ _ _ _ _ (by assumption) (by omega)).mono ?_; rintro e wn ⟨⟨x, y, rfl⟩, nsn⟩)
      | (go_at_call 44; refine (nsOne ⟨n, R, a, cap, zs, A, os, w.heap.size, w.heap.size + 1, w1.heap.size, w2.heap.size, s, t, u, v, w⟩ _ _ _ _ _ (by assumption) (by omega) (by decide) (by decide) (by first | exact ints [1, 1, 2, 3, 4] | exact ints [97, 98, 99, 32, 60, 38])).mono ?_; rintro e wn ⟨⟨x, rfl⟩, nsn⟩)
      | (go_at_call 66; refine (nsOf ⟨n, R, a, cap, zs, A, os, w.heap.size, w.heap.size + 1, w1.heap.size, w2.heap.size, s, t, u, v, w⟩ _ _ _ _ _ (by assumption) (by omega) (by decide) (by decide) (by first | exact strs [⟨#[119, 104, 121]⟩, ⟨#[103, 111, 111, 100]⟩] (by decide) | exact strs [⟨#[121, 101, 115]⟩, ⟨#[110, 111]⟩] (by decide))).mono ?_; rintro e wn ⟨⟨x, hx8, rfl⟩, nsn⟩))
    all_goals (obtain ⟨d0, d1, d2, d3, d4, d5, d6, d7, d8, d9, d10, d11⟩ := Cf; exact bodyPost_ret (v := .agg #[.int .i64 oo.i, .int .i64 oo.j, .int .i64 oo.k, .int .i64 oo.ts, .int .i64 oo.ta, .int .i64 oo.fs, .int .i64 oo.fa, .int .i64 oo.ns, .int .i64 oo.na, .int .i64 oo.v, .bool oo.en, .string oo.tx]) (by simp [results, Tryz.results55, go_sem, d0, d1, d2, d3, d4, d5, d6, d7, d8, d9, d10, d11]) rfl ⟨⟨oo, rfl, ht⟩, fin Ef (by omega)⟩)
  · go_wp2_with (first
      | (refine nsInt (X := ⟨n, R, a, cap, zs, A, os, w.heap.size, w.heap.size + 1, w1.heap.size, w2.heap.size, s, t, u, v, w⟩) rfl _ _ rfl rfl rfl (by decide) (by assumption) ?_; intro wn nsn)
      | (refine nsSt (X := ⟨n, R, a, cap, zs, A, os, w.heap.size, w.heap.size + 1, w1.heap.size, w2.heap.size, s, t, u, v, w⟩) rfl _ _ rfl rfl rfl (by decide) (by assumption) ?_; intro wn nsn)
      | (refine nsBool (X := ⟨n, R, a, cap, zs, A, os, w.heap.size, w.heap.size + 1, w1.heap.size, w2.heap.size, s, t, u, v, w⟩) rfl _ _ rfl rfl rfl (by assumption) ?_; intro wn nsn)
      | (refine nsStr (X := ⟨n, R, a, cap, zs, A, os, w.heap.size, w.heap.size + 1, w1.heap.size, w2.heap.size, s, t, u, v, w⟩) rfl _ _ rfl rfl rfl (by assumption) (by assumption) ?_; intro wn nsn)
      | (refine loadSt (b := w1.heap.size) (o := 0) (s := s) (t := t) rfl _ rfl rfl (Bx.range (NS.b (X := ⟨n, R, a, cap, zs, A, os, w.heap.size, w.heap.size + 1, w1.heap.size, w2.heap.size, s, t, u, v, w⟩) (by assumption))) ?_)
      | (refine loadSt (b := w2.heap.size) (o := 0) (s := u) (t := v) rfl _ rfl rfl (Bx.range (NS.c (X := ⟨n, R, a, cap, zs, A, os, w.heap.size, w.heap.size + 1, w1.heap.size, w2.heap.size, s, t, u, v, w⟩) (by assumption))) ?_)
      | (refine nsLoad (X := ⟨n, R, a, cap, zs, A, os, w.heap.size, w.heap.size + 1, w1.heap.size, w2.heap.size, s, t, u, v, w⟩) rfl _ rfl rfl (by assumption) ?_; intro oo ht)
      | (refine nsRes (X := ⟨n, R, a, cap, zs, A, os, w.heap.size, w.heap.size + 1, w1.heap.size, w2.heap.size, s, t, u, v, w⟩) (o := oo) rfl _ _ rfl rfl rfl (by assumption) ?_; intro wf Cf Ef)
      | (go_at_call 43; refine (nsPickZ ⟨n, R, a, cap, zs, A, os, w.heap.size, w.heap.size + 1, w1.heap.size, w2.heap.size, s, t, u, v, w⟩ _ _ _ (by assumption) (by omega) (by decide) (by decide)).mono ?_; rintro e wn ⟨⟨x, hx, rfl⟩, nsn⟩)
      | (go_at_call 65; refine (nsKind ⟨n, R, a, cap, zs, A, os, w.heap.size, w.heap.size + 1, w1.heap.size, w2.heap.size, s, t, u, v, w⟩ _ _ _ _ (by assumption) (by omega)).mono ?_; rintro e wn ⟨⟨x, y, rfl⟩, nsn⟩)
      | (go_at_call 44; refine (nsOne ⟨n, R, a, cap, zs, A, os, w.heap.size, w.heap.size + 1, w1.heap.size, w2.heap.size, s, t, u, v, w⟩ _ _ _ _ _ (by assumption) (by omega) (by decide) (by decide) (by first | exact ints [1, 1, 2, 3, 4] | exact ints [97, 98, 99, 32, 60, 38])).mono ?_; rintro e wn ⟨⟨x, rfl⟩, nsn⟩)
      | (go_at_call 66; refine (nsOf ⟨n, R, a, cap, zs, A, os, w.heap.size, w.heap.size + 1, w1.heap.size, w2.heap.size, s, t, u, v, w⟩ _ _ _ _ _ (by assumption) (by omega) (by decide) (by decide) (by first | exact strs [⟨#[119, 104, 121]⟩, ⟨#[103, 111, 111, 100]⟩] (by decide) | exact strs [⟨#[121, 101, 115]⟩, ⟨#[110, 111]⟩] (by decide))).mono ?_; rintro e wn ⟨⟨x, hx8, rfl⟩, nsn⟩))
    all_goals (obtain ⟨d0, d1, d2, d3, d4, d5, d6, d7, d8, d9, d10, d11⟩ := Cf; exact bodyPost_ret (v := .agg #[.int .i64 oo.i, .int .i64 oo.j, .int .i64 oo.k, .int .i64 oo.ts, .int .i64 oo.ta, .int .i64 oo.fs, .int .i64 oo.fa, .int .i64 oo.ns, .int .i64 oo.na, .int .i64 oo.v, .bool oo.en, .string oo.tx]) (by simp [results, Tryz.results55, go_sem, d0, d1, d2, d3, d4, d5, d6, d7, d8, d9, d10, d11]) rfl ⟨⟨oo, rfl, ht⟩, fin Ef (by omega)⟩)
  · go_wp2_with (first
      | (refine nsInt (X := ⟨n, R, a, cap, zs, A, os, w.heap.size, w.heap.size + 1, w1.heap.size, w2.heap.size, s, t, u, v, w⟩) rfl _ _ rfl rfl rfl (by decide) (by assumption) ?_; intro wn nsn)
      | (refine nsSt (X := ⟨n, R, a, cap, zs, A, os, w.heap.size, w.heap.size + 1, w1.heap.size, w2.heap.size, s, t, u, v, w⟩) rfl _ _ rfl rfl rfl (by decide) (by assumption) ?_; intro wn nsn)
      | (refine nsBool (X := ⟨n, R, a, cap, zs, A, os, w.heap.size, w.heap.size + 1, w1.heap.size, w2.heap.size, s, t, u, v, w⟩) rfl _ _ rfl rfl rfl (by assumption) ?_; intro wn nsn)
      | (refine nsStr (X := ⟨n, R, a, cap, zs, A, os, w.heap.size, w.heap.size + 1, w1.heap.size, w2.heap.size, s, t, u, v, w⟩) rfl _ _ rfl rfl rfl (by assumption) (by assumption) ?_; intro wn nsn)
      | (refine loadSt (b := w1.heap.size) (o := 0) (s := s) (t := t) rfl _ rfl rfl (Bx.range (NS.b (X := ⟨n, R, a, cap, zs, A, os, w.heap.size, w.heap.size + 1, w1.heap.size, w2.heap.size, s, t, u, v, w⟩) (by assumption))) ?_)
      | (refine loadSt (b := w2.heap.size) (o := 0) (s := u) (t := v) rfl _ rfl rfl (Bx.range (NS.c (X := ⟨n, R, a, cap, zs, A, os, w.heap.size, w.heap.size + 1, w1.heap.size, w2.heap.size, s, t, u, v, w⟩) (by assumption))) ?_)
      | (refine nsLoad (X := ⟨n, R, a, cap, zs, A, os, w.heap.size, w.heap.size + 1, w1.heap.size, w2.heap.size, s, t, u, v, w⟩) rfl _ rfl rfl (by assumption) ?_; intro oo ht)
      | (refine nsRes (X := ⟨n, R, a, cap, zs, A, os, w.heap.size, w.heap.size + 1, w1.heap.size, w2.heap.size, s, t, u, v, w⟩) (o := oo) rfl _ _ rfl rfl rfl (by assumption) ?_; intro wf Cf Ef)
      | (go_at_call 43; refine (nsPickZ ⟨n, R, a, cap, zs, A, os, w.heap.size, w.heap.size + 1, w1.heap.size, w2.heap.size, s, t, u, v, w⟩ _ _ _ (by assumption) (by omega) (by decide) (by decide)).mono ?_; rintro e wn ⟨⟨x, hx, rfl⟩, nsn⟩)
      | (go_at_call 65; refine (nsKind ⟨n, R, a, cap, zs, A, os, w.heap.size, w.heap.size + 1, w1.heap.size, w2.heap.size, s, t, u, v, w⟩ _ _ _ _ (by assumption) (by omega)).mono ?_; rintro e wn ⟨⟨x, y, rfl⟩, nsn⟩)
      | (go_at_call 44; refine (nsOne ⟨n, R, a, cap, zs, A, os, w.heap.size, w.heap.size + 1, w1.heap.size, w2.heap.size, s, t, u, v, w⟩ _ _ _ _ _ (by assumption) (by omega) (by decide) (by decide) (by first | exact ints [1, 1, 2, 3, 4] | exact ints [97, 98, 99, 32, 60, 38])).mono ?_; rintro e wn ⟨⟨x, rfl⟩, nsn⟩)
      | (go_at_call 66; refine (nsOf ⟨n, R, a, cap, zs, A, os, w.heap.size, w.heap.size + 1, w1.heap.size, w2.heap.size, s, t, u, v, w⟩ _ _ _ _ _ (by assumption) (by omega) (by decide) (by decide) (by first | exact strs [⟨#[119, 104, 121]⟩, ⟨#[103, 111, 111, 100]⟩] (by decide) | exact strs [⟨#[121, 101, 115]⟩, ⟨#[110, 111]⟩] (by decide))).mono ?_; rintro e wn ⟨⟨x, hx8, rfl⟩, nsn⟩))
    all_goals (obtain ⟨d0, d1, d2, d3, d4, d5, d6, d7, d8, d9, d10, d11⟩ := Cf; exact bodyPost_ret (v := .agg #[.int .i64 oo.i, .int .i64 oo.j, .int .i64 oo.k, .int .i64 oo.ts, .int .i64 oo.ta, .int .i64 oo.fs, .int .i64 oo.fa, .int .i64 oo.ns, .int .i64 oo.na, .int .i64 oo.v, .bool oo.en, .string oo.tx]) (by simp [results, Tryz.results55, go_sem, d0, d1, d2, d3, d4, d5, d6, d7, d8, d9, d10, d11]) rfl ⟨⟨oo, rfl, ht⟩, fin Ef (by omega)⟩)
  · go_wp2_with (first
      | (refine nsInt (X := ⟨n, R, a, cap, zs, A, os, w.heap.size, w.heap.size + 1, w1.heap.size, w2.heap.size, s, t, u, v, w⟩) rfl _ _ rfl rfl rfl (by decide) (by assumption) ?_; intro wn nsn)
      | (refine nsSt (X := ⟨n, R, a, cap, zs, A, os, w.heap.size, w.heap.size + 1, w1.heap.size, w2.heap.size, s, t, u, v, w⟩) rfl _ _ rfl rfl rfl (by decide) (by assumption) ?_; intro wn nsn)
      | (refine nsBool (X := ⟨n, R, a, cap, zs, A, os, w.heap.size, w.heap.size + 1, w1.heap.size, w2.heap.size, s, t, u, v, w⟩) rfl _ _ rfl rfl rfl (by assumption) ?_; intro wn nsn)
      | (refine nsStr (X := ⟨n, R, a, cap, zs, A, os, w.heap.size, w.heap.size + 1, w1.heap.size, w2.heap.size, s, t, u, v, w⟩) rfl _ _ rfl rfl rfl (by assumption) (by assumption) ?_; intro wn nsn)
      | (refine loadSt (b := w1.heap.size) (o := 0) (s := s) (t := t) rfl _ rfl rfl (Bx.range (NS.b (X := ⟨n, R, a, cap, zs, A, os, w.heap.size, w.heap.size + 1, w1.heap.size, w2.heap.size, s, t, u, v, w⟩) (by assumption))) ?_)
      | (refine loadSt (b := w2.heap.size) (o := 0) (s := u) (t := v) rfl _ rfl rfl (Bx.range (NS.c (X := ⟨n, R, a, cap, zs, A, os, w.heap.size, w.heap.size + 1, w1.heap.size, w2.heap.size, s, t, u, v, w⟩) (by assumption))) ?_)
      | (refine nsLoad (X := ⟨n, R, a, cap, zs, A, os, w.heap.size, w.heap.size + 1, w1.heap.size, w2.heap.size, s, t, u, v, w⟩) rfl _ rfl rfl (by assumption) ?_; intro oo ht)
      | (refine nsRes (X := ⟨n, R, a, cap, zs, A, os, w.heap.size, w.heap.size + 1, w1.heap.size, w2.heap.size, s, t, u, v, w⟩) (o := oo) rfl _ _ rfl rfl rfl (by assumption) ?_; intro wf Cf Ef)
      | (go_at_call 43; refine (nsPickZ ⟨n, R, a, cap, zs, A, os, w.heap.size, w.heap.size + 1, w1.heap.size, w2.heap.size, s, t, u, v, w⟩ _ _ _ (by assumption) (by omega) (by decide) (by decide)).mono ?_; rintro e wn ⟨⟨x, hx, rfl⟩, nsn⟩)
      | (go_at_call 65; refine (nsKind ⟨n, R, a, cap, zs, A, os, w.heap.size, w.heap.size + 1, w1.heap.size, w2.heap.size, s, t, u, v, w⟩ _ _ _ _ (by assumption) (by omega)).mono ?_; rintro e wn ⟨⟨x, y, rfl⟩, nsn⟩)
      | (go_at_call 44; refine (nsOne ⟨n, R, a, cap, zs, A, os, w.heap.size, w.heap.size + 1, w1.heap.size, w2.heap.size, s, t, u, v, w⟩ _ _ _ _ _ (by assumption) (by omega) (by decide) (by decide) (by first | exact ints [1, 1, 2, 3, 4] | exact ints [97, 98, 99, 32, 60, 38])).mono ?_; rintro e wn ⟨⟨x, rfl⟩, nsn⟩)
      | (go_at_call 66; refine (nsOf ⟨n, R, a, cap, zs, A, os, w.heap.size, w.heap.size + 1, w1.heap.size, w2.heap.size, s, t, u, v, w⟩ _ _ _ _ _ (by assumption) (by omega) (by decide) (by decide) (by first | exact strs [⟨#[119, 104, 121]⟩, ⟨#[103, 111, 111, 100]⟩] (by decide) | exact strs [⟨#[121, 101, 115]⟩, ⟨#[110, 111]⟩] (by decide))).mono ?_; rintro e wn ⟨⟨x, hx8, rfl⟩, nsn⟩))
    all_goals (obtain ⟨d0, d1, d2, d3, d4, d5, d6, d7, d8, d9, d10, d11⟩ := Cf; exact bodyPost_ret (v := .agg #[.int .i64 oo.i, .int .i64 oo.j, .int .i64 oo.k, .int .i64 oo.ts, .int .i64 oo.ta, .int .i64 oo.fs, .int .i64 oo.fa, .int .i64 oo.ns, .int .i64 oo.na, .int .i64 oo.v, .bool oo.en, .string oo.tx]) (by simp [results, Tryz.results55, go_sem, d0, d1, d2, d3, d4, d5, d6, d7, d8, d9, d10, d11]) rfl ⟨⟨oo, rfl, ht⟩, fin Ef (by omega)⟩)
  · go_wp2_with (first
      | (refine nsInt (X := ⟨n, R, a, cap, zs, A, os, w.heap.size, w.heap.size + 1, w1.heap.size, w2.heap.size, s, t, u, v, w⟩) rfl _ _ rfl rfl rfl (by decide) (by assumption) ?_; intro wn nsn)
      | (refine nsSt (X := ⟨n, R, a, cap, zs, A, os, w.heap.size, w.heap.size + 1, w1.heap.size, w2.heap.size, s, t, u, v, w⟩) rfl _ _ rfl rfl rfl (by decide) (by assumption) ?_; intro wn nsn)
      | (refine nsBool (X := ⟨n, R, a, cap, zs, A, os, w.heap.size, w.heap.size + 1, w1.heap.size, w2.heap.size, s, t, u, v, w⟩) rfl _ _ rfl rfl rfl (by assumption) ?_; intro wn nsn)
      | (refine nsStr (X := ⟨n, R, a, cap, zs, A, os, w.heap.size, w.heap.size + 1, w1.heap.size, w2.heap.size, s, t, u, v, w⟩) rfl _ _ rfl rfl rfl (by assumption) (by assumption) ?_; intro wn nsn)
      | (refine loadSt (b := w1.heap.size) (o := 0) (s := s) (t := t) rfl _ rfl rfl (Bx.range (NS.b (X := ⟨n, R, a, cap, zs, A, os, w.heap.size, w.heap.size + 1, w1.heap.size, w2.heap.size, s, t, u, v, w⟩) (by assumption))) ?_)
      | (refine loadSt (b := w2.heap.size) (o := 0) (s := u) (t := v) rfl _ rfl rfl (Bx.range (NS.c (X := ⟨n, R, a, cap, zs, A, os, w.heap.size, w.heap.size + 1, w1.heap.size, w2.heap.size, s, t, u, v, w⟩) (by assumption))) ?_)
      | (refine nsLoad (X := ⟨n, R, a, cap, zs, A, os, w.heap.size, w.heap.size + 1, w1.heap.size, w2.heap.size, s, t, u, v, w⟩) rfl _ rfl rfl (by assumption) ?_; intro oo ht)
      | (refine nsRes (X := ⟨n, R, a, cap, zs, A, os, w.heap.size, w.heap.size + 1, w1.heap.size, w2.heap.size, s, t, u, v, w⟩) (o := oo) rfl _ _ rfl rfl rfl (by assumption) ?_; intro wf Cf Ef)
      | (go_at_call 43; refine (nsPickZ ⟨n, R, a, cap, zs, A, os, w.heap.size, w.heap.size + 1, w1.heap.size, w2.heap.size, s, t, u, v, w⟩ _ _ _ (by assumption) (by omega) (by decide) (by decide)).mono ?_; rintro e wn ⟨⟨x, hx, rfl⟩, nsn⟩)
      | (go_at_call 65; refine (nsKind ⟨n, R, a, cap, zs, A, os, w.heap.size, w.heap.size + 1, w1.heap.size, w2.heap.size, s, t, u, v, w⟩ _ _ _ _ (by assumption) (by omega)).mono ?_; rintro e wn ⟨⟨x, y, rfl⟩, nsn⟩)
      | (go_at_call 44; refine (nsOne ⟨n, R, a, cap, zs, A, os, w.heap.size, w.heap.size + 1, w1.heap.size, w2.heap.size, s, t, u, v, w⟩ _ _ _ _ _ (by assumption) (by omega) (by decide) (by decide) (by first | exact ints [1, 1, 2, 3, 4] | exact ints [97, 98, 99, 32, 60, 38])).mono ?_; rintro e wn ⟨⟨x, rfl⟩, nsn⟩)
      | (go_at_call 66; refine (nsOf ⟨n, R, a, cap, zs, A, os, w.heap.size, w.heap.size + 1, w1.heap.size, w2.heap.size, s, t, u, v, w⟩ _ _ _ _ _ (by assumption) (by omega) (by decide) (by decide) (by first | exact strs [⟨#[119, 104, 121]⟩, ⟨#[103, 111, 111, 100]⟩] (by decide) | exact strs [⟨#[121, 101, 115]⟩, ⟨#[110, 111]⟩] (by decide))).mono ?_; rintro e wn ⟨⟨x, hx8, rfl⟩, nsn⟩))
    all_goals (obtain ⟨d0, d1, d2, d3, d4, d5, d6, d7, d8, d9, d10, d11⟩ := Cf; exact bodyPost_ret (v := .agg #[.int .i64 oo.i, .int .i64 oo.j, .int .i64 oo.k, .int .i64 oo.ts, .int .i64 oo.ta, .int .i64 oo.fs, .int .i64 oo.fa, .int .i64 oo.ns, .int .i64 oo.na, .int .i64 oo.v, .bool oo.en, .string oo.tx]) (by simp [results, Tryz.results55, go_sem, d0, d1, d2, d3, d4, d5, d6, d7, d8, d9, d10, d11]) rfl ⟨⟨oo, rfl, ht⟩, fin Ef (by omega)⟩)
  · go_wp2_with (first
      | (refine nsInt (X := ⟨n, R, a, cap, zs, A, os, w.heap.size, w.heap.size + 1, w1.heap.size, w2.heap.size, s, t, u, v, w⟩) rfl _ _ rfl rfl rfl (by decide) (by assumption) ?_; intro wn nsn)
      | (refine nsSt (X := ⟨n, R, a, cap, zs, A, os, w.heap.size, w.heap.size + 1, w1.heap.size, w2.heap.size, s, t, u, v, w⟩) rfl _ _ rfl rfl rfl (by decide) (by assumption) ?_; intro wn nsn)
      | (refine nsBool (X := ⟨n, R, a, cap, zs, A, os, w.heap.size, w.heap.size + 1, w1.heap.size, w2.heap.size, s, t, u, v, w⟩) rfl _ _ rfl rfl rfl (by assumption) ?_; intro wn nsn)
      | (refine nsStr (X := ⟨n, R, a, cap, zs, A, os, w.heap.size, w.heap.size + 1, w1.heap.size, w2.heap.size, s, t, u, v, w⟩) rfl _ _ rfl rfl rfl (by assumption) (by assumption) ?_; intro wn nsn)
      | (refine loadSt (b := w1.heap.size) (o := 0) (s := s) (t := t) rfl _ rfl rfl (Bx.range (NS.b (X := ⟨n, R, a, cap, zs, A, os, w.heap.size, w.heap.size + 1, w1.heap.size, w2.heap.size, s, t, u, v, w⟩) (by assumption))) ?_)
      | (refine loadSt (b := w2.heap.size) (o := 0) (s := u) (t := v) rfl _ rfl rfl (Bx.range (NS.c (X := ⟨n, R, a, cap, zs, A, os, w.heap.size, w.heap.size + 1, w1.heap.size, w2.heap.size, s, t, u, v, w⟩) (by assumption))) ?_)
      | (refine nsLoad (X := ⟨n, R, a, cap, zs, A, os, w.heap.size, w.heap.size + 1, w1.heap.size, w2.heap.size, s, t, u, v, w⟩) rfl _ rfl rfl (by assumption) ?_; intro oo ht)
      | (refine nsRes (X := ⟨n, R, a, cap, zs, A, os, w.heap.size, w.heap.size + 1, w1.heap.size, w2.heap.size, s, t, u, v, w⟩) (o := oo) rfl _ _ rfl rfl rfl (by assumption) ?_; intro wf Cf Ef)
      | (go_at_call 43; refine (nsPickZ ⟨n, R, a, cap, zs, A, os, w.heap.size, w.heap.size + 1, w1.heap.size, w2.heap.size, s, t, u, v, w⟩ _ _ _ (by assumption) (by omega) (by decide) (by decide)).mono ?_; rintro e wn ⟨⟨x, hx, rfl⟩, nsn⟩)
      | (go_at_call 65; refine (nsKind ⟨n, R, a, cap, zs, A, os, w.heap.size, w.heap.size + 1, w1.heap.size, w2.heap.size, s, t, u, v, w⟩ _ _ _ _ (by assumption) (by omega)).mono ?_; rintro e wn ⟨⟨x, y, rfl⟩, nsn⟩)
      | (go_at_call 44; refine (nsOne ⟨n, R, a, cap, zs, A, os, w.heap.size, w.heap.size + 1, w1.heap.size, w2.heap.size, s, t, u, v, w⟩ _ _ _ _ _ (by assumption) (by omega) (by decide) (by decide) (by first | exact ints [1, 1, 2, 3, 4] | exact ints [97, 98, 99, 32, 60, 38])).mono ?_; rintro e wn ⟨⟨x, rfl⟩, nsn⟩)
      | (go_at_call 66; refine (nsOf ⟨n, R, a, cap, zs, A, os, w.heap.size, w.heap.size + 1, w1.heap.size, w2.heap.size, s, t, u, v, w⟩ _ _ _ _ _ (by assumption) (by omega) (by decide) (by decide) (by first | exact strs [⟨#[119, 104, 121]⟩, ⟨#[103, 111, 111, 100]⟩] (by decide) | exact strs [⟨#[121, 101, 115]⟩, ⟨#[110, 111]⟩] (by decide))).mono ?_; rintro e wn ⟨⟨x, hx8, rfl⟩, nsn⟩))
    all_goals (obtain ⟨d0, d1, d2, d3, d4, d5, d6, d7, d8, d9, d10, d11⟩ := Cf; exact bodyPost_ret (v := .agg #[.int .i64 oo.i, .int .i64 oo.j, .int .i64 oo.k, .int .i64 oo.ts, .int .i64 oo.ta, .int .i64 oo.fs, .int .i64 oo.fa, .int .i64 oo.ns, .int .i64 oo.na, .int .i64 oo.v, .bool oo.en, .string oo.tx]) (by simp [results, Tryz.results55, go_sem, d0, d1, d2, d3, d4, d5, d6, d7, d8, d9, d10, d11]) rfl ⟨⟨oo, rfl, ht⟩, fin Ef (by omega)⟩)
  · go_wp2_with (first
      | (refine nsInt (X := ⟨n, R, a, cap, zs, A, os, w.heap.size, w.heap.size + 1, w1.heap.size, w2.heap.size, s, t, u, v, w⟩) rfl _ _ rfl rfl rfl (by decide) (by assumption) ?_; intro wn nsn)
      | (refine nsSt (X := ⟨n, R, a, cap, zs, A, os, w.heap.size, w.heap.size + 1, w1.heap.size, w2.heap.size, s, t, u, v, w⟩) rfl _ _ rfl rfl rfl (by decide) (by assumption) ?_; intro wn nsn)
      | (refine nsBool (X := ⟨n, R, a, cap, zs, A, os, w.heap.size, w.heap.size + 1, w1.heap.size, w2.heap.size, s, t, u, v, w⟩) rfl _ _ rfl rfl rfl (by assumption) ?_; intro wn nsn)
      | (refine nsStr (X := ⟨n, R, a, cap, zs, A, os, w.heap.size, w.heap.size + 1, w1.heap.size, w2.heap.size, s, t, u, v, w⟩) rfl _ _ rfl rfl rfl (by assumption) (by assumption) ?_; intro wn nsn)
      | (refine loadSt (b := w1.heap.size) (o := 0) (s := s) (t := t) rfl _ rfl rfl (Bx.range (NS.b (X := ⟨n, R, a, cap, zs, A, os, w.heap.size, w.heap.size + 1, w1.heap.size, w2.heap.size, s, t, u, v, w⟩) (by assumption))) ?_)
      | (refine loadSt (b := w2.heap.size) (o := 0) (s := u) (t := v) rfl _ rfl rfl (Bx.range (NS.c (X := ⟨n, R, a, cap, zs, A, os, w.heap.size, w.heap.size + 1, w1.heap.size, w2.heap.size, s, t, u, v, w⟩) (by assumption))) ?_)
      | (refine nsLoad (X := ⟨n, R, a, cap, zs, A, os, w.heap.size, w.heap.size + 1, w1.heap.size, w2.heap.size, s, t, u, v, w⟩) rfl _ rfl rfl (by assumption) ?_; intro oo ht)
      | (refine nsRes (X := ⟨n, R, a, cap, zs, A, os, w.heap.size, w.heap.size + 1, w1.heap.size, w2.heap.size, s, t, u, v, w⟩) (o := oo) rfl _ _ rfl rfl rfl (by assumption) ?_; intro wf Cf Ef)
      | (go_at_call 43; refine (nsPickZ ⟨n, R, a, cap, zs, A, os, w.heap.size, w.heap.size + 1, w1.heap.size, w2.heap.size, s, t, u, v, w⟩ _ _ _ (by assumption) (by omega) (by decide) (by decide)).mono ?_; rintro e wn ⟨⟨x, hx, rfl⟩, nsn⟩)
      | (go_at_call 65; refine (nsKind ⟨n, R, a, cap, zs, A, os, w.heap.size, w.heap.size + 1, w1.heap.size, w2.heap.size, s, t, u, v, w⟩ _ _ _ _ (by assumption) (by omega)).mono ?_; rintro e wn ⟨⟨x, y, rfl⟩, nsn⟩)
      | (go_at_call 44; refine (nsOne ⟨n, R, a, cap, zs, A, os, w.heap.size, w.heap.size + 1, w1.heap.size, w2.heap.size, s, t, u, v, w⟩ _ _ _ _ _ (by assumption) (by omega) (by decide) (by decide) (by first | exact ints [1, 1, 2, 3, 4] | exact ints [97, 98, 99, 32, 60, 38])).mono ?_; rintro e wn ⟨⟨x, rfl⟩, nsn⟩)
      | (go_at_call 66; refine (nsOf ⟨n, R, a, cap, zs, A, os, w.heap.size, w.heap.size + 1, w1.heap.size, w2.heap.size, s, t, u, v, w⟩ _ _ _ _ _ (by assumption) (by omega) (by decide) (by decide) (by first | exact strs [⟨#[119, 104, 121]⟩, ⟨#[103, 111, 111, 100]⟩] (by decide) | exact strs [⟨#[121, 101, 115]⟩, ⟨#[110, 111]⟩] (by decide))).mono ?_; rintro e wn ⟨⟨x, hx8, rfl⟩, nsn⟩))
    all_goals (obtain ⟨d0, d1, d2, d3, d4, d5, d6, d7, d8, d9, d10, d11⟩ := Cf; exact bodyPost_ret (v := .agg #[.int .i64 oo.i, .int .i64 oo.j, .int .i64 oo.k, .int .i64 oo.ts, .int .i64 oo.ta, .int .i64 oo.fs, .int .i64 oo.fa, .int .i64 oo.ns, .int .i64 oo.na, .int .i64 oo.v, .bool oo.en, .string oo.tx]) (by simp [results, Tryz.results55, go_sem, d0, d1, d2, d3, d4, d5, d6, d7, d8, d9, d10, d11]) rfl ⟨⟨oo, rfl, ht⟩, fin Ef (by omega)⟩)
  · by_cases h0 : os.length = 0
    · have hl0 : ¬ (0 : Int) < (os.length : Int) := by omega
      rcases h10 with rfl | rfl
      all_goals
        go_wp2_with (first
      | (refine nsInt (X := ⟨n, R, a, cap, zs, A, os, w.heap.size, w.heap.size + 1, w1.heap.size, w2.heap.size, s, t, u, v, w⟩) rfl _ _ rfl rfl rfl (by decide) (by assumption) ?_; intro wn nsn)
      | (refine nsSt (X := ⟨n, R, a, cap, zs, A, os, w.heap.size, w.heap.size + 1, w1.heap.size, w2.heap.size, s, t, u, v, w⟩) rfl _ _ rfl rfl rfl (by decide) (by assumption) ?_; intro wn nsn)
      | (refine nsBool (X := ⟨n, R, a, cap, zs, A, os, w.heap.size, w.heap.size + 1, w1.heap.size, w2.heap.size, s, t, u, v, w⟩) rfl _ _ rfl rfl rfl (by assumption) ?_; intro wn nsn)
      | (refine nsStr (X := ⟨n, R, a, cap, zs, A, os, w.heap.size, w.heap.size + 1, w1.heap.size, w2.heap.size, s, t, u, v, w⟩) rfl _ _ rfl rfl rfl (by assumption) (by assumption) ?_; intro wn nsn)
      | (refine loadSt (b := w1.heap.size) (o := 0) (s := s) (t := t) rfl _ rfl rfl (Bx.range (NS.b (X := ⟨n, R, a, cap, zs, A, os, w.heap.size, w.heap.size + 1, w1.heap.size, w2.heap.size, s, t, u, v, w⟩) (by assumption))) ?_)
      | (refine loadSt (b := w2.heap.size) (o := 0) (s := u) (t := v) rfl _ rfl rfl (Bx.range (NS.c (X := ⟨n, R, a, cap, zs, A, os, w.heap.size, w.heap.size + 1, w1.heap.size, w2.heap.size, s, t, u, v, w⟩) (by assumption))) ?_)
      | (refine nsLoad (X := ⟨n, R, a, cap, zs, A, os, w.heap.size, w.heap.size + 1, w1.heap.size, w2.heap.size, s, t, u, v, w⟩) rfl _ rfl rfl (by assumption) ?_; intro oo ht)
      | (refine nsRes (X := ⟨n, R, a, cap, zs, A, os, w.heap.size, w.heap.size + 1, w1.heap.size, w2.heap.size, s, t, u, v, w⟩) (o := oo) rfl _ _ rfl rfl rfl (by assumption) ?_; intro wf Cf Ef)
      | (go_at_call 43; refine (nsPickZ ⟨n, R, a, cap, zs, A, os, w.heap.size, w.heap.size + 1, w1.heap.size, w2.heap.size, s, t, u, v, w⟩ _ _ _ (by assumption) (by omega) (by decide) (by decide)).mono ?_; rintro e wn ⟨⟨x, hx, rfl⟩, nsn⟩)
      | (go_at_call 65; refine (nsKind ⟨n, R, a, cap, zs, A, os, w.heap.size, w.heap.size + 1, w1.heap.size, w2.heap.size, s, t, u, v, w⟩ _ _ _ _ (by assumption) (by omega)).mono ?_; rintro e wn ⟨⟨x, y, rfl⟩, nsn⟩)
      | (go_at_call 44; refine (nsOne ⟨n, R, a, cap, zs, A, os, w.heap.size, w.heap.size + 1, w1.heap.size, w2.heap.size, s, t, u, v, w⟩ _ _ _ _ _ (by assumption) (by omega) (by decide) (by decide) (by first | exact ints [1, 1, 2, 3, 4] | exact ints [97, 98, 99, 32, 60, 38])).mono ?_; rintro e wn ⟨⟨x, rfl⟩, nsn⟩)
      | (go_at_call 66; refine (nsOf ⟨n, R, a, cap, zs, A, os, w.heap.size, w.heap.size + 1, w1.heap.size, w2.heap.size, s, t, u, v, w⟩ _ _ _ _ _ (by assumption) (by omega) (by decide) (by decide) (by first | exact strs [⟨#[119, 104, 121]⟩, ⟨#[103, 111, 111, 100]⟩] (by decide) | exact strs [⟨#[121, 101, 115]⟩, ⟨#[110, 111]⟩] (by decide))).mono ?_; rintro e wn ⟨⟨x, hx8, rfl⟩, nsn⟩))
        all_goals (obtain ⟨d0, d1, d2, d3, d4, d5, d6, d7, d8, d9, d10, d11⟩ := Cf; exact bodyPost_ret (v := .agg #[.int .i64 oo.i, .int .i64 oo.j, .int .i64 oo.k, .int .i64 oo.ts, .int .i64 oo.ta, .int .i64 oo.fs, .int .i64 oo.fa, .int .i64 oo.ns, .int .i64 oo.na, .int .i64 oo.v, .bool oo.en, .string oo.tx]) (by simp [results, Tryz.results55, go_sem, d0, d1, d2, d3, d4, d5, d6, d7, d8, d9, d10, d11]) rfl ⟨⟨oo, rfl, ht⟩, fin Ef (by omega)⟩)
    · have hl0 : (0 : Int) < (os.length : Int) := by omega
      have hl1 : (os.length : Int) ≤ 1000000 := by omega
      rcases HRL.out with h1 | ⟨b, off, rfl, hc⟩
      · rw [h1] at h0; exact absurd rfl h0
      clear hc
      rcases h10 with rfl | rfl
      all_goals
        go_wp2_with (first
      | (refine nsInt (X := ⟨n, R, a, cap, zs, some ⟨b, off, none⟩, os, w.heap.size, w.heap.size + 1, w1.heap.size, w2.heap.size, s, t, u, v, w⟩) rfl _ _ rfl rfl rfl (by decide) (by assumption) ?_; intro wn nsn)
      | (refine nsSt (X := ⟨n, R, a, cap, zs, some ⟨b, off, none⟩, os, w.heap.size, w.heap.size + 1, w1.heap.size, w2.heap.size, s, t, u, v, w⟩) rfl _ _ rfl rfl rfl (by decide) (by assumption) ?_; intro wn nsn)
      | (refine nsBool (X := ⟨n, R, a, cap, zs, some ⟨b, off, none⟩, os, w.heap.size, w.heap.size + 1, w1.heap.size, w2.heap.size, s, t, u, v, w⟩) rfl _ _ rfl rfl rfl (by assumption) ?_; intro wn nsn)
      | (refine nsStr (X := ⟨n, R, a, cap, zs, some ⟨b, off, none⟩, os, w.heap.size, w.heap.size + 1, w1.heap.size, w2.heap.size, s, t, u, v, w⟩) rfl _ _ rfl rfl rfl (by assumption) (by assumption) ?_; intro wn nsn)
      | (refine loadSt (b := w1.heap.size) (o := 0) (s := s) (t := t) rfl _ rfl rfl (Bx.range (NS.b (X := ⟨n, R, a, cap, zs, some ⟨b, off, none⟩, os, w.heap.size, w.heap.size + 1, w1.heap.size, w2.heap.size, s, t, u, v, w⟩) (by assumption))) ?_)
      | (refine loadSt (b := w2.heap.size) (o := 0) (s := u) (t := v) rfl _ rfl rfl (Bx.range (NS.c (X := ⟨n, R, a, cap, zs, some ⟨b, off, none⟩, os, w.heap.size, w.heap.size + 1, w1.heap.size, w2.heap.size, s, t, u, v, w⟩) (by assumption))) ?_)
      | (refine nsLoad (X := ⟨n, R, a, cap, zs, some ⟨b, off, none⟩, os, w.heap.size, w.heap.size + 1, w1.heap.size, w2.heap.size, s, t, u, v, w⟩) rfl _ rfl rfl (by assumption) ?_; intro oo ht)
      | (refine nsRes (X := ⟨n, R, a, cap, zs, some ⟨b, off, none⟩, os, w.heap.size, w.heap.size + 1, w1.heap.size, w2.heap.size, s, t, u, v, w⟩) (o := oo) rfl _ _ rfl rfl rfl (by assumption) ?_; intro wf Cf Ef)
      | (go_at_call 43; refine (nsPickZ ⟨n, R, a, cap, zs, some ⟨b, off, none⟩, os, w.heap.size, w.heap.size + 1, w1.heap.size, w2.heap.size, s, t, u, v, w⟩ _ _ _ (by assumption) (by omega) (by decide) (by decide)).mono ?_; rintro e wn ⟨⟨x, hx, rfl⟩, nsn⟩)
      | (go_at_call 65; refine (nsKind ⟨n, R, a, cap, zs, some ⟨b, off, none⟩, os, w.heap.size, w.heap.size + 1, w1.heap.size, w2.heap.size, s, t, u, v, w⟩ _ _ _ _ (by assumption) (by omega)).mono ?_; rintro e wn ⟨⟨x, y, rfl⟩, nsn⟩)
      | (go_at_call 44; refine (nsOne ⟨n, R, a, cap, zs, some ⟨b, off, none⟩, os, w.heap.size, w.heap.size + 1, w1.heap.size, w2.heap.size, s, t, u, v, w⟩ _ _ _ _ _ (by assumption) (by omega) (by decide) (by decide) (by first | exact ints [1, 1, 2, 3, 4] | exact ints [97, 98, 99, 32, 60, 38])).mono ?_; rintro e wn ⟨⟨x, rfl⟩, nsn⟩)
      | (go_at_call 66; refine (nsOf ⟨n, R, a, cap, zs, some ⟨b, off, none⟩, os, w.heap.size, w.heap.size + 1, w1.heap.size, w2.heap.size, s, t, u, v, w⟩ _ _ _ _ _ (by assumption) (by omega) (by decide) (by decide) (by first | exact strs [⟨#[119, 104, 121]⟩, ⟨#[103, 111, 111, 100]⟩] (by decide) | exact strs [⟨#[121, 101, 115]⟩, ⟨#[110, 111]⟩] (by decide))).mono ?_; rintro e wn ⟨⟨x, hx8, rfl⟩, nsn⟩)
      | (go_at_call 43; refine (nsPickZ ⟨n, R, a, cap, zs, some ⟨b, off, none⟩, os, w.heap.size, w.heap.size + 1, w1.heap.size, w2.heap.size, s, t, u, v, w⟩ _ _ _ (by assumption) (by omega) (by omega) (by omega)).mono ?_; rintro e wn ⟨⟨x, hx, rfl⟩, nsn⟩; have hx0 : (0 : Int) ≤ (x : Int) := Int.natCast_nonneg _; have hxl : x < os.length := by omega)
      | (refine loadSt (b := b) (o := off + x * 12) (s := (os.getD x zop).i) (t := (os.getD x zop).j) rfl _ rfl rfl (sub0 (NS.elt (X := ⟨n, R, a, cap, zs, some ⟨b, off, none⟩, os, w.heap.size, w.heap.size + 1, w1.heap.size, w2.heap.size, s, t, u, v, w⟩) (by assumption) rfl (by assumption))) ?_))
        all_goals (obtain ⟨d0, d1, d2, d3, d4, d5, d6, d7, d8, d9, d10, d11⟩ := Cf; exact bodyPost_ret (v := .agg #[.int .i64 oo.i, .int .i64 oo.j, .int .i64 oo.k, .int .i64 oo.ts, .int .i64 oo.ta, .int .i64 oo.fs, .int .i64 oo.fa, .int .i64 oo.ns, .int .i64 oo.na, .int .i64 oo.v, .bool oo.en, .string oo.tx]) (by simp [results, Tryz.results55, go_sem, d0, d1, d2, d3, d4, d5, d6, d7, d8, d9, d10, d11]) rfl ⟨⟨oo, rfl, ht⟩, fin Ef (by omega)⟩)
  · have q0 : ((m : Int) == 0) = false := by apply beq_false_of_ne; omega
    have q1 : ((m : Int) == 1) = false := by apply beq_false_of_ne; omega
    have q2 : ((m : Int) == 2) = false := by apply beq_false_of_ne; omega
    have q3 : ((m : Int) == 3) = false := by apply beq_false_of_ne; omega
    have q4 : ((m : Int) == 4) = false := by apply beq_false_of_ne; omega
    have q5 : ((m : Int) == 5) = false := by apply beq_false_of_ne; omega
    have q6 : ((m : Int) == 6) = false := by apply beq_false_of_ne; omega
    have q7 : ((m : Int) == 7) = false := by apply beq_false_of_ne; omega
    have q8 : ((m : Int) == 8) = false := by apply beq_false_of_ne; omega
    have q9 : ((m : Int) == 9) = false := by apply beq_false_of_ne; omega
    have q10 : ((m : Int) == 10) = false := by apply beq_false_of_ne; omega
    have q11 : ((m : Int) == 11) = false := by apply beq_false_of_ne; omega
    clear h12 hm
    rcases HID.out with ⟨hu, hv⟩ | hid
    · have HZ := Lib.hid (fun w => spec_isZero u v w)
      rw [show zst u v = true by simp [zst, hu, hv]] at HZ
      clear hu hv
      go_wp2_with (first
      | (refine nsInt (X := ⟨n, R, a, cap, zs, A, os, w.heap.size, w.heap.size + 1, w1.heap.size, w2.heap.size, s, t, u, v, w⟩) rfl _ _ rfl rfl rfl (by decide) (by assumption) ?_; intro wn nsn)
      | (refine nsSt (X := ⟨n, R, a, cap, zs, A, os, w.heap.size, w.heap.size + 1, w1.heap.size, w2.heap.size, s, t, u, v, w⟩) rfl _ _ rfl rfl rfl (by decide) (by assumption) ?_; intro wn nsn)
      | (refine nsBool (X := ⟨n, R, a, cap, zs, A, os, w.heap.size, w.heap.size + 1, w1.heap.size, w2.heap.size, s, t, u, v, w⟩) rfl _ _ rfl rfl rfl (by assumption) ?_; intro wn nsn)
      | (refine nsStr (X := ⟨n, R, a, cap, zs, A, os, w.heap.size, w.heap.size + 1, w1.heap.size, w2.heap.size, s, t, u, v, w⟩) rfl _ _ rfl rfl rfl (by assumption) (by assumption) ?_; intro wn nsn)
      | (refine loadSt (b := w1.heap.size) (o := 0) (s := s) (t := t) rfl _ rfl rfl (Bx.range (NS.b (X := ⟨n, R, a, cap, zs, A, os, w.heap.size, w.heap.size + 1, w1.heap.size, w2.heap.size, s, t, u, v, w⟩) (by assumption))) ?_)
      | (refine loadSt (b := w2.heap.size) (o := 0) (s := u) (t := v) rfl _ rfl rfl (Bx.range (NS.c (X := ⟨n, R, a, cap, zs, A, os, w.heap.size, w.heap.size + 1, w1.heap.size, w2.heap.size, s, t, u, v, w⟩) (by assumption))) ?_)
      | (refine nsLoad (X := ⟨n, R, a, cap, zs, A, os, w.heap.size, w.heap.size + 1, w1.heap.size, w2.heap.size, s, t, u, v, w⟩) rfl _ rfl rfl (by assumption) ?_; intro oo ht)
      | (refine nsRes (X := ⟨n, R, a, cap, zs, A, os, w.heap.size, w.heap.size + 1, w1.heap.size, w2.heap.size, s, t, u, v, w⟩) (o := oo) rfl _ _ rfl rfl rfl (by assumption) ?_; intro wf Cf Ef)
      | (go_at_call 65; refine (nsKind ⟨n, R, a, cap, zs, A, os, w.heap.size, w.heap.size + 1, w1.heap.size, w2.heap.size, s, t, u, v, w⟩ _ _ _ _ (by assumption) (by omega)).mono ?_; rintro e wn ⟨⟨x, y, rfl⟩, nsn⟩)
      | (go_at_call 44; refine (nsOne ⟨n, R, a, cap, zs, A, os, w.heap.size, w.heap.size + 1, w1.heap.size, w2.heap.size, s, t, u, v, w⟩ _ _ _ _ _ (by assumption) (by omega) (by decide) (by decide) (by first | exact ints [1, 1, 2, 3, 4] | exact ints [97, 98, 99, 32, 60, 38])).mono ?_; rintro e wn ⟨⟨x, rfl⟩, nsn⟩)
      | (go_at_call 66; refine (nsOf ⟨n, R, a, cap, zs, A, os, w.heap.size, w.heap.size + 1, w1.heap.size, w2.heap.size, s, t, u, v, w⟩ _ _ _ _ _ (by assumption) (by omega) (by decide) (by decide) (by first | exact strs [⟨#[119, 104, 121]⟩, ⟨#[103, 111, 111, 100]⟩] (by decide) | exact strs [⟨#[121, 101, 115]⟩, ⟨#[110, 111]⟩] (by decide))).mono ?_; rintro e wn ⟨⟨x, hx8, rfl⟩, nsn⟩))
      refine (nsPickZ ⟨n, R, a, cap, zs, A, os, w.heap.size, w.heap.size + 1, w1.heap.size, w2.heap.size, s, t, u, v, w⟩ _ _ _ (by assumption) (by omega) (by decide) (by decide)).mono ?_
      rintro e wp ⟨⟨x, hx, rfl⟩, nsp⟩
      obtain ⟨_, cc0, cc1⟩ := nsp.c
      have cc0' : wp.cell? ⟨w2.heap.size, 0, none⟩ = some (.int .i64 u) := cc0
      have cc1' : wp.cell? ⟨w2.heap.size, 1, none⟩ = some (.int .i64 v) := cc1
      clear cc0 cc1
      rcases Nat.eq_zero_or_pos x with rfl | hx0
      · go_wp2_with (first
      | (refine nsInt (X := ⟨n, R, a, cap, zs, A, os, w.heap.size, w.heap.size + 1, w1.heap.size, w2.heap.size, s, t, u, v, w⟩) rfl _ _ rfl rfl rfl (by decide) (by assumption) ?_; intro wn nsn)
      | (refine nsSt (X := ⟨n, R, a, cap, zs, A, os, w.heap.size, w.heap.size + 1, w1.heap.size, w2.heap.size, s, t, u, v, w⟩) rfl _ _ rfl rfl rfl (by decide) (by assumption) ?_; intro wn nsn)
      | (refine nsBool (X := ⟨n, R, a, cap, zs, A, os, w.heap.size, w.heap.size + 1, w1.heap.size, w2.heap.size, s, t, u, v, w⟩) rfl _ _ rfl rfl rfl (by assumption) ?_; intro wn nsn)
      | (refine nsStr (X := ⟨n, R, a, cap, zs, A, os, w.heap.size, w.heap.size + 1, w1.heap.size, w2.heap.size, s, t, u, v, w⟩) rfl _ _ rfl rfl rfl (by assumption) (by assumption) ?_; intro wn nsn)
      | (refine loadSt (b := w1.heap.size) (o := 0) (s := s) (t := t) rfl _ rfl rfl (Bx.range (NS.b (X := ⟨n, R, a, cap, zs, A, os, w.heap.size, w.heap.size + 1, w1.heap.size, w2.heap.size, s, t, u, v, w⟩) (by assumption))) ?_)
      | (refine loadSt (b := w2.heap.size) (o := 0) (s := u) (t := v) rfl _ rfl rfl (Bx.range (NS.c (X := ⟨n, R, a, cap, zs, A, os, w.heap.size, w.heap.size + 1, w1.heap.size, w2.heap.size, s, t, u, v, w⟩) (by assumption))) ?_)
      | (refine nsLoad (X := ⟨n, R, a, cap, zs, A, os, w.heap.size, w.heap.size + 1, w1.heap.size, w2.heap.size, s, t, u, v, w⟩) rfl _ rfl rfl (by assumption) ?_; intro oo ht)
      | (refine nsRes (X := ⟨n, R, a, cap, zs, A, os, w.heap.size, w.heap.size + 1, w1.heap.size, w2.heap.size, s, t, u, v, w⟩) (o := oo) rfl _ _ rfl rfl rfl (by assumption) ?_; intro wf Cf Ef)
      | (go_at_call 65; refine (nsKind ⟨n, R, a, cap, zs, A, os, w.heap.size, w.heap.size + 1, w1.heap.size, w2.heap.size, s, t, u, v, w⟩ _ _ _ _ (by assumption) (by omega)).mono ?_; rintro e wn ⟨⟨x, y, rfl⟩, nsn⟩)
      | (go_at_call 44; refine (nsOne ⟨n, R, a, cap, zs, A, os, w.heap.size, w.heap.size + 1, w1.heap.size, w2.heap.size, s, t, u, v, w⟩ _ _ _ _ _ (by assumption) (by omega) (by decide) (by decide) (by first | exact ints [1, 1, 2, 3, 4] | exact ints [97, 98, 99, 32, 60, 38])).mono ?_; rintro e wn ⟨⟨x, rfl⟩, nsn⟩)
      | (go_at_call 66; refine (nsOf ⟨n, R, a, cap, zs, A, os, w.heap.size, w.heap.size + 1, w1.heap.size, w2.heap.size, s, t, u, v, w⟩ _ _ _ _ _ (by assumption) (by omega) (by decide) (by decide) (by first | exact strs [⟨#[119, 104, 121]⟩, ⟨#[103, 111, 111, 100]⟩] (by decide) | exact strs [⟨#[121, 101, 115]⟩, ⟨#[110, 111]⟩] (by decide))).mono ?_; rintro e wn ⟨⟨x, hx8, rfl⟩, nsn⟩))
        all_goals (obtain ⟨d0, d1, d2, d3, d4, d5, d6, d7, d8, d9, d10, d11⟩ := Cf; exact bodyPost_ret (v := .agg #[.int .i64 oo.i, .int .i64 oo.j, .int .i64 oo.k, .int .i64 oo.ts, .int .i64 oo.ta, .int .i64 oo.fs, .int .i64 oo.fa, .int .i64 oo.ns, .int .i64 oo.na, .int .i64 oo.v, .bool oo.en, .string oo.tx]) (by simp [results, Tryz.results55, go_sem, d0, d1, d2, d3, d4, d5, d6, d7, d8, d9, d10, d11]) rfl ⟨⟨oo, rfl, ht⟩, fin Ef (by omega)⟩)
      · have hx1 : (0 : Int) < (x : Int) := by omega
        go_wp2_with fail
        refine (HZ.out _).mono ?_
        rintro e wq ⟨rfl, bq⟩
        have nsq := nsp.below bq
        go_wp2_with (first
      | (refine nsInt (X := ⟨n, R, a, cap, zs, A, os, w.heap.size, w.heap.size + 1, w1.heap.size, w2.heap.size, s, t, u, v, w⟩) rfl _ _ rfl rfl rfl (by decide) (by assumption) ?_; intro wn nsn)
      | (refine nsSt (X := ⟨n, R, a, cap, zs, A, os, w.heap.size, w.heap.size + 1, w1.heap.size, w2.heap.size, s, t, u, v, w⟩) rfl _ _ rfl rfl rfl (by decide) (by assumption) ?_; intro wn nsn)
      | (refine nsBool (X := ⟨n, R, a, cap, zs, A, os, w.heap.size, w.heap.size + 1, w1.heap.size, w2.heap.size, s, t, u, v, w⟩) rfl _ _ rfl rfl rfl (by assumption) ?_; intro wn nsn)
      | (refine nsStr (X := ⟨n, R, a, cap, zs, A, os, w.heap.size, w.heap.size + 1, w1.heap.size, w2.heap.size, s, t, u, v, w⟩) rfl _ _ rfl rfl rfl (by assumption) (by assumption) ?_; intro wn nsn)
      | (refine loadSt (b := w1.heap.size) (o := 0) (s := s) (t := t) rfl _ rfl rfl (Bx.range (NS.b (X := ⟨n, R, a, cap, zs, A, os, w.heap.size, w.heap.size + 1, w1.heap.size, w2.heap.size, s, t, u, v, w⟩) (by assumption))) ?_)
      | (refine loadSt (b := w2.heap.size) (o := 0) (s := u) (t := v) rfl _ rfl rfl (Bx.range (NS.c (X := ⟨n, R, a, cap, zs, A, os, w.heap.size, w.heap.size + 1, w1.heap.size, w2.heap.size, s, t, u, v, w⟩) (by assumption))) ?_)
      | (refine nsLoad (X := ⟨n, R, a, cap, zs, A, os, w.heap.size, w.heap.size + 1, w1.heap.size, w2.heap.size, s, t, u, v, w⟩) rfl _ rfl rfl (by assumption) ?_; intro oo ht)
      | (refine nsRes (X := ⟨n, R, a, cap, zs, A, os, w.heap.size, w.heap.size + 1, w1.heap.size, w2.heap.size, s, t, u, v, w⟩) (o := oo) rfl _ _ rfl rfl rfl (by assumption) ?_; intro wf Cf Ef)
      | (go_at_call 65; refine (nsKind ⟨n, R, a, cap, zs, A, os, w.heap.size, w.heap.size + 1, w1.heap.size, w2.heap.size, s, t, u, v, w⟩ _ _ _ _ (by assumption) (by omega)).mono ?_; rintro e wn ⟨⟨x, y, rfl⟩, nsn⟩)
      | (go_at_call 44; refine (nsOne ⟨n, R, a, cap, zs, A, os, w.heap.size, w.heap.size + 1, w1.heap.size, w2.heap.size, s, t, u, v, w⟩ _ _ _ _ _ (by assumption) (by omega) (by decide) (by decide) (by first | exact ints [1, 1, 2, 3, 4] | exact ints [97, 98, 99, 32, 60, 38])).mono ?_; rintro e wn ⟨⟨x, rfl⟩, nsn⟩)
      | (go_at_call 66; refine (nsOf ⟨n, R, a, cap, zs, A, os, w.heap.size, w.heap.size + 1, w1.heap.size, w2.heap.size, s, t, u, v, w⟩ _ _ _ _ _ (by assumption) (by omega) (by decide) (by decide) (by first | exact strs [⟨#[119, 104, 121]⟩, ⟨#[103, 111, 111, 100]⟩] (by decide) | exact strs [⟨#[121, 101, 115]⟩, ⟨#[110, 111]⟩] (by decide))).mono ?_; rintro e wn ⟨⟨x, hx8, rfl⟩, nsn⟩))
        all_goals (obtain ⟨d0, d1, d2, d3, d4, d5, d6, d7, d8, d9, d10, d11⟩ := Cf; exact bodyPost_ret (v := .agg #[.int .i64 oo.i, .int .i64 oo.j, .int .i64 oo.k, .int .i64 oo.ts, .int .i64 oo.ta, .int .i64 oo.fs, .int .i64 oo.fa, .int .i64 oo.ns, .int .i64 oo.na, .int .i64 oo.v, .bool oo.en, .string oo.tx]) (by simp [results, Tryz.results55, go_sem, d0, d1, d2, d3, d4, d5, d6, d7, d8, d9, d10, d11]) rfl ⟨⟨oo, rfl, ht⟩, fin Ef (by omega)⟩)
    · obtain ⟨mi, hmi, _⟩ := id hid
      rcases HRL.out with h1 | ⟨b, off, rfl, hc⟩
      · rw [h1] at hmi; cases hmi
      clear hc
      have HF := Lib.hid (fun (W : World) (hr : RdO W (some ⟨b, off, none⟩) os) => findOp (some ⟨b, off, none⟩) c os u v W hr (by omega))
      have HNI := Lib.hid hid
      obtain ⟨zb, hzb⟩ : ∃ zb, zst u v = zb := ⟨_, rfl⟩
      have HZ := Lib.hid (fun w => spec_isZero u v w)
      rw [hzb] at HZ
      clear hzb hid
      go_wp2_with (first
      | (refine nsInt (X := ⟨n, R, a, cap, zs, some ⟨b, off, none⟩, os, w.heap.size, w.heap.size + 1, w1.heap.size, w2.heap.size, s, t, u, v, w⟩) rfl _ _ rfl rfl rfl (by decide) (by assumption) ?_; intro wn nsn)
      | (refine nsSt (X := ⟨n, R, a, cap, zs, some ⟨b, off, none⟩, os, w.heap.size, w.heap.size + 1, w1.heap.size, w2.heap.size, s, t, u, v, w⟩) rfl _ _ rfl rfl rfl (by decide) (by assumption) ?_; intro wn nsn)
      | (refine nsBool (X := ⟨n, R, a, cap, zs, some ⟨b, off, none⟩, os, w.heap.size, w.heap.size + 1, w1.heap.size, w2.heap.size, s, t, u, v, w⟩) rfl _ _ rfl rfl rfl (by assumption) ?_; intro wn nsn)
      | (refine nsStr (X := ⟨n, R, a, cap, zs, some ⟨b, off, none⟩, os, w.heap.size, w.heap.size + 1, w1.heap.size, w2.heap.size, s, t, u, v, w⟩) rfl _ _ rfl rfl rfl (by assumption) (by assumption) ?_; intro wn nsn)
      | (refine loadSt (b := w1.heap.size) (o := 0) (s := s) (t := t) rfl _ rfl rfl (Bx.range (NS.b (X := ⟨n, R, a, cap, zs, some ⟨b, off, none⟩, os, w.heap.size, w.heap.size + 1, w1.heap.size, w2.heap.size, s, t, u, v, w⟩) (by assumption))) ?_)
      | (refine loadSt (b := w2.heap.size) (o := 0) (s := u) (t := v) rfl _ rfl rfl (Bx.range (NS.c (X := ⟨n, R, a, cap, zs, some ⟨b, off, none⟩, os, w.heap.size, w.heap.size + 1, w1.heap.size, w2.heap.size, s, t, u, v, w⟩) (by assumption))) ?_)
      | (refine nsLoad (X := ⟨n, R, a, cap, zs, some ⟨b, off, none⟩, os, w.heap.size, w.heap.size + 1, w1.heap.size, w2.heap.size, s, t, u, v, w⟩) rfl _ rfl rfl (by assumption) ?_; intro oo ht)
      | (refine nsRes (X := ⟨n, R, a, cap, zs, some ⟨b, off, none⟩, os, w.heap.size, w.heap.size + 1, w1.heap.size, w2.heap.size, s, t, u, v, w⟩) (o := oo) rfl _ _ rfl rfl rfl (by assumption) ?_; intro wf Cf Ef)
      | (go_at_call 65; refine (nsKind ⟨n, R, a, cap, zs, some ⟨b, off, none⟩, os, w.heap.size, w.heap.size + 1, w1.heap.size, w2.heap.size, s, t, u, v, w⟩ _ _ _ _ (by assumption) (by omega)).mono ?_; rintro e wn ⟨⟨x, y, rfl⟩, nsn⟩)
      | (go_at_call 44; refine (nsOne ⟨n, R, a, cap, zs, some ⟨b, off, none⟩, os, w.heap.size, w.heap.size + 1, w1.heap.size, w2.heap.size, s, t, u, v, w⟩ _ _ _ _ _ (by assumption) (by omega) (by decide) (by decide) (by first | exact ints [1, 1, 2, 3, 4] | exact ints [97, 98, 99, 32, 60, 38])).mono ?_; rintro e wn ⟨⟨x, rfl⟩, nsn⟩)
      | (go_at_call 66; refine (nsOf ⟨n, R, a, cap, zs, some ⟨b, off, none⟩, os, w.heap.size, w.heap.size + 1, w1.heap.size, w2.heap.size, s, t, u, v, w⟩ _ _ _ _ _ (by assumption) (by omega) (by decide) (by decide) (by first | exact strs [⟨#[119, 104, 121]⟩, ⟨#[103, 111, 111, 100]⟩] (by decide) | exact strs [⟨#[121, 101, 115]⟩, ⟨#[110, 111]⟩] (by decide))).mono ?_; rintro e wn ⟨⟨x, hx8, rfl⟩, nsn⟩))
      refine (nsPickZ ⟨n, R, a, cap, zs, some ⟨b, off, none⟩, os, w.heap.size, w.heap.size + 1, w1.heap.size, w2.heap.size, s, t, u, v, w⟩ _ _ _ (by assumption) (by omega) (by decide) (by decide)).mono ?_
      rintro e wp ⟨⟨x, hx, rfl⟩, nsp⟩
      obtain ⟨_, cc0, cc1⟩ := nsp.c
      have cc0' : wp.cell? ⟨w2.heap.size, 0, none⟩ = some (.int .i64 u) := cc0
      have cc1' : wp.cell? ⟨w2.heap.size, 1, none⟩ = some (.int .i64 v) := cc1
      clear cc0 cc1
      rcases Nat.eq_zero_or_pos x with rfl | hx0
      · go_wp2_with (first
      | (refine nsInt (X := ⟨n, R, a, cap, zs, some ⟨b, off, none⟩, os, w.heap.size, w.heap.size + 1, w1.heap.size, w2.heap.size, s, t, u, v, w⟩) rfl _ _ rfl rfl rfl (by decide) (by assumption) ?_; intro wn nsn)
      | (refine nsSt (X := ⟨n, R, a, cap, zs, some ⟨b, off, none⟩, os, w.heap.size, w.heap.size + 1, w1.heap.size, w2.heap.size, s, t, u, v, w⟩) rfl _ _ rfl rfl rfl (by decide) (by assumption) ?_; intro wn nsn)
      | (refine nsBool (X := ⟨n, R, a, cap, zs, some ⟨b, off, none⟩, os, w.heap.size, w.heap.size + 1, w1.heap.size, w2.heap.size, s, t, u, v, w⟩) rfl _ _ rfl rfl rfl (by assumption) ?_; intro wn nsn)
      | (refine nsStr (X := ⟨n, R, a, cap, zs, some ⟨b, off, none⟩, os, w.heap.size, w.heap.size + 1, w1.heap.size, w2.heap.size, s, t, u, v, w⟩) rfl _ _ rfl rfl rfl (by assumption) (by assumption) ?_; intro wn nsn)
      | (refine loadSt (b := w1.heap.size) (o := 0) (s := s) (t := t) rfl _ rfl rfl (Bx.range (NS.b (X := ⟨n, R, a, cap, zs, some ⟨b, off, none⟩, os, w.heap.size, w.heap.size + 1, w1.heap.size, w2.heap.size, s, t, u, v, w⟩) (by assumption))) ?_)
      | (refine loadSt (b := w2.heap.size) (o := 0) (s := u) (t := v) rfl _ rfl rfl (Bx.range (NS.c (X := ⟨n, R, a, cap, zs, some ⟨b, off, none⟩, os, w.heap.size, w.heap.size + 1, w1.heap.size, w2.heap.size, s, t, u, v, w⟩) (by assumption))) ?_)
      | (refine nsLoad (X := ⟨n, R, a, cap, zs, some ⟨b, off, none⟩, os, w.heap.size, w.heap.size + 1, w1.heap.size, w2.heap.size, s, t, u, v, w⟩) rfl _ rfl rfl (by assumption) ?_; intro oo ht)
      | (refine nsRes (X := ⟨n, R, a, cap, zs, some ⟨b, off, none⟩, os, w.heap.size, w.heap.size + 1, w1.heap.size, w2.heap.size, s, t, u, v, w⟩) (o := oo) rfl _ _ rfl rfl rfl (by assumption) ?_; intro wf Cf Ef)
      | (go_at_call 65; refine (nsKind ⟨n, R, a, cap, zs, some ⟨b, off, none⟩, os, w.heap.size, w.heap.size + 1, w1.heap.size, w2.heap.size, s, t, u, v, w⟩ _ _ _ _ (by assumption) (by omega)).mono ?_; rintro e wn ⟨⟨x, y, rfl⟩, nsn⟩)
      | (go_at_call 44; refine (nsOne ⟨n, R, a, cap, zs, some ⟨b, off, none⟩, os, w.heap.size, w.heap.size + 1, w1.heap.size, w2.heap.size, s, t, u, v, w⟩ _ _ _ _ _ (by assumption) (by omega) (by decide) (by decide) (by first | exact ints [1, 1, 2, 3, 4] | exact ints [97, 98, 99, 32, 60, 38])).mono ?_; rintro e wn ⟨⟨x, rfl⟩, nsn⟩)
      | (go_at_call 66; refine (nsOf ⟨n, R, a, cap, zs, some ⟨b, off, none⟩, os, w.heap.size, w.heap.size + 1, w1.heap.size, w2.heap.size, s, t, u, v, w⟩ _ _ _ _ _ (by assumption) (by omega) (by decide) (by decide) (by first | exact strs [⟨#[119, 104, 121]⟩, ⟨#[103, 111, 111, 100]⟩] (by decide) | exact strs [⟨#[121, 101, 115]⟩, ⟨#[110, 111]⟩] (by decide))).mono ?_; rintro e wn ⟨⟨x, hx8, rfl⟩, nsn⟩))
        all_goals (obtain ⟨d0, d1, d2, d3, d4, d5, d6, d7, d8, d9, d10, d11⟩ := Cf; exact bodyPost_ret (v := .agg #[.int .i64 oo.i, .int .i64 oo.j, .int .i64 oo.k, .int .i64 oo.ts, .int .i64 oo.ta, .int .i64 oo.fs, .int .i64 oo.fa, .int .i64 oo.ns, .int .i64 oo.na, .int .i64 oo.v, .bool oo.en, .string oo.tx]) (by simp [results, Tryz.results55, go_sem, d0, d1, d2, d3, d4, d5, d6, d7, d8, d9, d10, d11]) rfl ⟨⟨oo, rfl, ht⟩, fin Ef (by omega)⟩)
      · have hx1 : (0 : Int) < (x : Int) := by omega
        go_wp2_with fail
        refine (HZ.out _).mono ?_
        rintro e wq ⟨rfl, bq⟩
        have nsq := nsp.below bq
        clear cc0' cc1'
        cases zb
        · go_wp2_with (first
      | (refine nsInt (X := ⟨n, R, a, cap, zs, some ⟨b, off, none⟩, os, w.heap.size, w.heap.size + 1, w1.heap.size, w2.heap.size, s, t, u, v, w⟩) rfl _ _ rfl rfl rfl (by decide) (by assumption) ?_; intro wn nsn)
      | (refine nsSt (X := ⟨n, R, a, cap, zs, some ⟨b, off, none⟩, os, w.heap.size, w.heap.size + 1, w1.heap.size, w2.heap.size, s, t, u, v, w⟩) rfl _ _ rfl rfl rfl (by decide) (by assumption) ?_; intro wn nsn)
      | (refine nsBool (X := ⟨n, R, a, cap, zs, some ⟨b, off, none⟩, os, w.heap.size, w.heap.size + 1, w1.heap.size, w2.heap.size, s, t, u, v, w⟩) rfl _ _ rfl rfl rfl (by assumption) ?_; intro wn nsn)
      | (refine nsStr (X := ⟨n, R, a, cap, zs, some ⟨b, off, none⟩, os, w.heap.size, w.heap.size + 1, w1.heap.size, w2.heap.size, s, t, u, v, w⟩) rfl _ _ rfl rfl rfl (by assumption) (by assumption) ?_; intro wn nsn)
      | (refine loadSt (b := w1.heap.size) (o := 0) (s := s) (t := t) rfl _ rfl rfl (Bx.range (NS.b (X := ⟨n, R, a, cap, zs, some ⟨b, off, none⟩, os, w.heap.size, w.heap.size + 1, w1.heap.size, w2.heap.size, s, t, u, v, w⟩) (by assumption))) ?_)
      | (refine loadSt (b := w2.heap.size) (o := 0) (s := u) (t := v) rfl _ rfl rfl (Bx.range (NS.c (X := ⟨n, R, a, cap, zs, some ⟨b, off, none⟩, os, w.heap.size, w.heap.size + 1, w1.heap.size, w2.heap.size, s, t, u, v, w⟩) (by assumption))) ?_)
      | (refine nsLoad (X := ⟨n, R, a, cap, zs, some ⟨b, off, none⟩, os, w.heap.size, w.heap.size + 1, w1.heap.size, w2.heap.size, s, t, u, v, w⟩) rfl _ rfl rfl (by assumption) ?_; intro oo ht)
      | (refine nsRes (X := ⟨n, R, a, cap, zs, some ⟨b, off, none⟩, os, w.heap.size, w.heap.size + 1, w1.heap.size, w2.heap.size, s, t, u, v, w⟩) (o := oo) rfl _ _ rfl rfl rfl (by assumption) ?_; intro wf Cf Ef)
      | (go_at_call 65; refine (nsKind ⟨n, R, a, cap, zs, some ⟨b, off, none⟩, os, w.heap.size, w.heap.size + 1, w1.heap.size, w2.heap.size, s, t, u, v, w⟩ _ _ _ _ (by assumption) (by omega)).mono ?_; rintro e wn ⟨⟨x, y, rfl⟩, nsn⟩)
      | (go_at_call 44; refine (nsOne ⟨n, R, a, cap, zs, some ⟨b, off, none⟩, os, w.heap.size, w.heap.size + 1, w1.heap.size, w2.heap.size, s, t, u, v, w⟩ _ _ _ _ _ (by assumption) (by omega) (by decide) (by decide) (by first | exact ints [1, 1, 2, 3, 4] | exact ints [97, 98, 99, 32, 60, 38])).mono ?_; rintro e wn ⟨⟨x, rfl⟩, nsn⟩)
      | (go_at_call 66; refine (nsOf ⟨n, R, a, cap, zs, some ⟨b, off, none⟩, os, w.heap.size, w.heap.size + 1, w1.heap.size, w2.heap.size, s, t, u, v, w⟩ _ _ _ _ _ (by assumption) (by omega) (by decide) (by decide) (by first | exact strs [⟨#[119, 104, 121]⟩, ⟨#[103, 111, 111, 100]⟩] (by decide) | exact strs [⟨#[121, 101, 115]⟩, ⟨#[110, 111]⟩] (by decide))).mono ?_; rintro e wn ⟨⟨x, hx8, rfl⟩, nsn⟩))
          refine (HF.out _ (NS.l (X := ⟨n, R, a, cap, zs, some ⟨b, off, none⟩, os, w.heap.size, w.heap.size + 1, w1.heap.size, w2.heap.size, s, t, u, v, w⟩) (by assumption))).mono ?_
          rintro e wr ⟨⟨r, rfl, hr⟩, br⟩
          have hr2 : 0 ≤ r ∧ r < os.length := by
            rcases hr with hr | ⟨_, hr⟩
            · exact hr
            · exact absurd HNI.out hr
          obtain ⟨y, rfl⟩ := Int.eq_ofNat_of_zero_le hr2.1
          have hy : y < os.length := by have := hr2.2; omega
          have hy0 : (0 : Int) ≤ (y : Int) := hr2.1
          have hy1 : (y : Int) < (os.length : Int) := hr2.2
          have nsr := NS.below (X := ⟨n, R, a, cap, zs, some ⟨b, off, none⟩, os, w.heap.size, w.heap.size + 1, w1.heap.size, w2.heap.size, s, t, u, v, w⟩) (by assumption) br
          clear hr hr2
          go_wp2_with (first
      | (refine nsInt (X := ⟨n, R, a, cap, zs, some ⟨b, off, none⟩, os, w.heap.size, w.heap.size + 1, w1.heap.size, w2.heap.size, s, t, u, v, w⟩) rfl _ _ rfl rfl rfl (by decide) (by assumption) ?_; intro wn nsn)
      | (refine nsSt (X := ⟨n, R, a, cap, zs, some ⟨b, off, none⟩, os, w.heap.size, w.heap.size + 1, w1.heap.size, w2.heap.size, s, t, u, v, w⟩) rfl _ _ rfl rfl rfl (by decide) (by assumption) ?_; intro wn nsn)
      | (refine nsBool (X := ⟨n, R, a, cap, zs, some ⟨b, off, none⟩, os, w.heap.size, w.heap.size + 1, w1.heap.size, w2.heap.size, s, t, u, v, w⟩) rfl _ _ rfl rfl rfl (by assumption) ?_; intro wn nsn)
      | (refine nsStr (X := ⟨n, R, a, cap, zs, some ⟨b, off, none⟩, os, w.heap.size, w.heap.size + 1, w1.heap.size, w2.heap.size, s, t, u, v, w⟩) rfl _ _ rfl rfl rfl (by assumption) (by assumption) ?_; intro wn nsn)
      | (refine loadSt (b := w1.heap.size) (o := 0) (s := s) (t := t) rfl _ rfl rfl (Bx.range (NS.b (X := ⟨n, R, a, cap, zs, some ⟨b, off, none⟩, os, w.heap.size, w.heap.size + 1, w1.heap.size, w2.heap.size, s, t, u, v, w⟩) (by assumption))) ?_)
      | (refine loadSt (b := w2.heap.size) (o := 0) (s := u) (t := v) rfl _ rfl rfl (Bx.range (NS.c (X := ⟨n, R, a, cap, zs, some ⟨b, off, none⟩, os, w.heap.size, w.heap.size + 1, w1.heap.size, w2.heap.size, s, t, u, v, w⟩) (by assumption))) ?_)
      | (refine nsLoad (X := ⟨n, R, a, cap, zs, some ⟨b, off, none⟩, os, w.heap.size, w.heap.size + 1, w1.heap.size, w2.heap.size, s, t, u, v, w⟩) rfl _ rfl rfl (by assumption) ?_; intro oo ht)
      | (refine nsRes (X := ⟨n, R, a, cap, zs, some ⟨b, off, none⟩, os, w.heap.size, w.heap.size + 1, w1.heap.size, w2.heap.size, s, t, u, v, w⟩) (o := oo) rfl _ _ rfl rfl rfl (by assumption) ?_; intro wf Cf Ef)
      | (go_at_call 65; refine (nsKind ⟨n, R, a, cap, zs, some ⟨b, off, none⟩, os, w.heap.size, w.heap.size + 1, w1.heap.size, w2.heap.size, s, t, u, v, w⟩ _ _ _ _ (by assumption) (by omega)).mono ?_; rintro e wn ⟨⟨x, y, rfl⟩, nsn⟩)
      | (go_at_call 44; refine (nsOne ⟨n, R, a, cap, zs, some ⟨b, off, none⟩, os, w.heap.size, w.heap.size + 1, w1.heap.size, w2.heap.size, s, t, u, v, w⟩ _ _ _ _ _ (by assumption) (by omega) (by decide) (by decide) (by first | exact ints [1, 1, 2, 3, 4] | exact ints [97, 98, 99, 32, 60, 38])).mono ?_; rintro e wn ⟨⟨x, rfl⟩, nsn⟩)
      | (go_at_call 66; refine (nsOf ⟨n, R, a, cap, zs, some ⟨b, off, none⟩, os, w.heap.size, w.heap.size + 1, w1.heap.size, w2.heap.size, s, t, u, v, w⟩ _ _ _ _ _ (by assumption) (by omega) (by decide) (by decide) (by first | exact strs [⟨#[119, 104, 121]⟩, ⟨#[103, 111, 111, 100]⟩] (by decide) | exact strs [⟨#[121, 101, 115]⟩, ⟨#[110, 111]⟩] (by decide))).mono ?_; rintro e wn ⟨⟨x, hx8, rfl⟩, nsn⟩)
      | (refine loadSt (b := b) (o := off + y * 12 + 3) (s := (os.getD y zop).ts) (t := (os.getD y zop).ta) rfl _ rfl rfl (sub3 (NS.elt (X := ⟨n, R, a, cap, zs, some ⟨b, off, none⟩, os, w.heap.size, w.heap.size + 1, w1.heap.size, w2.heap.size, s, t, u, v, w⟩) (by assumption) rfl hy)) ?_))
          all_goals (obtain ⟨d0, d1, d2, d3, d4, d5, d6, d7, d8, d9, d10, d11⟩ := Cf; exact bodyPost_ret (v := .agg #[.int .i64 oo.i, .int .i64 oo.j, .int .i64 oo.k, .int .i64 oo.ts, .int .i64 oo.ta, .int .i64 oo.fs, .int .i64 oo.fa, .int .i64 oo.ns, .int .i64 oo.na, .int .i64 oo.v, .bool oo.en, .string oo.tx]) (by simp [results, Tryz.results55, go_sem, d0, d1, d2, d3, d4, d5, d6, d7, d8, d9, d10, d11]) rfl ⟨⟨oo, rfl, ht⟩, fin Ef (by omega)⟩)
        · go_wp2_with (first
      | (refine nsInt (X := ⟨n, R, a, cap, zs, some ⟨b, off, none⟩, os, w.heap.size, w.heap.size + 1, w1.heap.size, w2.heap.size, s, t, u, v, w⟩) rfl _ _ rfl rfl rfl (by decide) (by assumption) ?_; intro wn nsn)
      | (refine nsSt (X := ⟨n, R, a, cap, zs, some ⟨b, off, none⟩, os, w.heap.size, w.heap.size + 1, w1.heap.size, w2.heap.size, s, t, u, v, w⟩) rfl _ _ rfl rfl rfl (by decide) (by assumption) ?_; intro wn nsn)
      | (refine nsBool (X := ⟨n, R, a, cap, zs, some ⟨b, off, none⟩, os, w.heap.size, w.heap.size + 1, w1.heap.size, w2.heap.size, s, t, u, v, w⟩) rfl _ _ rfl rfl rfl (by assumption) ?_; intro wn nsn)
      | (refine nsStr (X := ⟨n, R, a, cap, zs, some ⟨b, off, none⟩, os, w.heap.size, w.heap.size + 1, w1.heap.size, w2.heap.size, s, t, u, v, w⟩) rfl _ _ rfl rfl rfl (by assumption) (by assumption) ?_; intro wn nsn)
      | (refine loadSt (b := w1.heap.size) (o := 0) (s := s) (t := t) rfl _ rfl rfl (Bx.range (NS.b (X := ⟨n, R, a, cap, zs, some ⟨b, off, none⟩, os, w.heap.size, w.heap.size + 1, w1.heap.size, w2.heap.size, s, t, u, v, w⟩) (by assumption))) ?_)
      | (refine loadSt (b := w2.heap.size) (o := 0) (s := u) (t := v) rfl _ rfl rfl (Bx.range (NS.c (X := ⟨n, R, a, cap, zs, some ⟨b, off, none⟩, os, w.heap.size, w.heap.size + 1, w1.heap.size, w2.heap.size, s, t, u, v, w⟩) (by assumption))) ?_)
      | (refine nsLoad (X := ⟨n, R, a, cap, zs, some ⟨b, off, none⟩, os, w.heap.size, w.heap.size + 1, w1.heap.size, w2.heap.size, s, t, u, v, w⟩) rfl _ rfl rfl (by assumption) ?_; intro oo ht)
      | (refine nsRes (X := ⟨n, R, a, cap, zs, some ⟨b, off, none⟩, os, w.heap.size, w.heap.size + 1, w1.heap.size, w2.heap.size, s, t, u, v, w⟩) (o := oo) rfl _ _ rfl rfl rfl (by assumption) ?_; intro wf Cf Ef)
      | (go_at_call 65; refine (nsKind ⟨n, R, a, cap, zs, some ⟨b, off, none⟩, os, w.heap.size, w.heap.size + 1, w1.heap.size, w2.heap.size, s, t, u, v, w⟩ _ _ _ _ (by assumption) (by omega)).mono ?_; rintro e wn ⟨⟨x, y, rfl⟩, nsn⟩)
      | (go_at_call 44; refine (nsOne ⟨n, R, a, cap, zs, some ⟨b, off, none⟩, os, w.heap.size, w.heap.size + 1, w1.heap.size, w2.heap.size, s, t, u, v, w⟩ _ _ _ _ _ (by assumption) (by omega) (by decide) (by decide) (by first | exact ints [1, 1, 2, 3, 4] | exact ints [97, 98, 99, 32, 60, 38])).mono ?_; rintro e wn ⟨⟨x, rfl⟩, nsn⟩)
      | (go_at_call 66; refine (nsOf ⟨n, R, a, cap, zs, some ⟨b, off, none⟩, os, w.heap.size, w.heap.size + 1, w1.heap.size, w2.heap.size, s, t, u, v, w⟩ _ _ _ _ _ (by assumption) (by omega) (by decide) (by decide) (by first | exact strs [⟨#[119, 104, 121]⟩, ⟨#[103, 111, 111, 100]⟩] (by decide) | exact strs [⟨#[121, 101, 115]⟩, ⟨#[110, 111]⟩] (by decide))).mono ?_; rintro e wn ⟨⟨x, hx8, rfl⟩, nsn⟩))
          all_goals (obtain ⟨d0, d1, d2, d3, d4, d5, d6, d7, d8, d9, d10, d11⟩ := Cf; exact bodyPost_ret (v := .agg #[.int .i64 oo.i, .int .i64 oo.j, .int .i64 oo.k, .int .i64 oo.ts, .int .i64 oo.ta, .int .i64 oo.fs, .int .i64 oo.fa, .int .i64 oo.ns, .int .i64 oo.na, .int .i64 oo.v, .bool oo.en, .string oo.tx]) (by simp [results, Tryz.results55, go_sem, d0, d1, d2, d3, d4, d5, d6, d7, d8, d9, d10, d11]) rfl ⟨⟨oo, rfl, ht⟩, fin Ef (by omega)⟩)

end Go.Proofs.YtlogpbejfifgdaaGreat.ReB
