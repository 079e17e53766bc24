/-
  The reader that the named laws draw their arguments with: what it is, and the contract of pick where no byte is mixed. Its bytes are at most 2000, its position at most 10^6.
-/
import Derived.Test.YtlogpbejfifgdaaGreatBase
namespace Go.Proofs.YtlogpbejfifgdaaGreat.RdA
open Go.RowKit Go.Proofs.YtlogpbejfifgdaaGreat.Base

/-- A slice of bytes. -/
def RdB (w : World) (a : Option Addr) (zs : List Int) : Prop :=
  zs = [] ∨ ∃ b off, a = some ⟨b, off, none⟩ ∧ ∀ i, i < zs.length → w.cell? ⟨b, off + i, none⟩ = some (.int .u8 (zs.getD i 0)) ∧ 0 ≤ zs.getD i 0 ∧ zs.getD i 0 ≤ 255
/-- Block R is a reader over that slice, at position p. -/
def Rdr (w : World) (R : Nat) (a : Option Addr) (len cap p : Nat) : Prop := w.heap[R]? = some (.cells #[.slice a len cap, .int .i64 p] 67 (0, 0))
theorem Rdr.lt {w : World} {R : Nat} {a : Option Addr} {len cap p : Nat} (h : Rdr w R a len cap p) : R < w.heap.size := by
  by_cases hs : R < w.heap.size
  · exact hs
  · simp [Rdr, Array.getElem?_eq_none (Nat.le_of_not_lt hs)] at h
theorem Rdr.c0 {w : World} {R : Nat} {a : Option Addr} {len cap p : Nat} (h : Rdr w R a len cap p) : w.cell? ⟨R, 0, none⟩ = some (.slice a len cap) := by simp [World.cell?, show w.heap[R]? = _ from h]
theorem Rdr.c1 {w : World} {R : Nat} {a : Option Addr} {len cap p : Nat} (h : Rdr w R a len cap p) : w.cell? ⟨R, 1, none⟩ = some (.int .i64 p) := by simp [World.cell?, show w.heap[R]? = _ from h]
theorem Rdr.fr {w : World} {R : Nat} {a : Option Addr} {len cap p : Nat} (h : Rdr w R a len cap p) (i : Nat) : w.frozen? ⟨R, i, none⟩ = false := by simp [World.frozen?, show w.heap[R]? = _ from h]
/-- The reader one position on. -/
noncomputable def stepW (w : World) (R p : Nat) : World := w.setCell ⟨R, 1, none⟩ (.int .i64 ((p : Int) + 1))

theorem pick0 (R : Nat) (a : Option Addr) (cap p n : Nat) (w : World) (hR : Rdr w R a 0 cap p) (hp : p ≤ 1000000) (hn : 1 ≤ n) (hn2 : n ≤ 1000000) :
    Calls Tryz.prog 43 #[.pointer (some ⟨R, 0, none⟩), .int .i64 n] w fun e w' => (∃ m : Nat, m < n ∧ e = .returned (.int .i64 m)) ∧ ∃ k, w' = (stepW w R p).drewN k := by
  have c0 := hR.c0
  have c1 := hR.c1
  have f1 := hR.fr 1
  have hlt : ¬ (n : Int) < 1 := by omega
  clear hR
  go_enter Tryz.func43, Tryz.ntmps43
  go_wp2
  go_ret
  exact ⟨⟨0, by omega, rfl⟩, 0, rfl⟩

theorem pick1 (R b off cap p n : Nat) (zs : List Int) (w : World) (hR : Rdr w R (some ⟨b, off, none⟩) zs.length cap p) (hne : b ≠ R)
    (hz : w.cell? ⟨b, off + p, none⟩ = some (.int .u8 (zs.getD p 0))) (hz0 : 0 ≤ zs.getD p 0) (hz1 : zs.getD p 0 ≤ 255) (hl : zs.length ≤ 2000) (hlt : p < zs.length) (hn : 1 ≤ n) (hn2 : n ≤ 1000000) :
    Calls Tryz.prog 43 #[.pointer (some ⟨R, 0, none⟩), .int .i64 n] w fun e w' => (∃ m : Nat, m < n ∧ e = .returned (.int .i64 m)) ∧ ∃ k, w' = (stepW w R p).drewN k := by
  have c0 := hR.c0
  have c1 := hR.c1
  have f1 := hR.fr 1
  generalize zs.getD p 0 = z at hz hz0 hz1
  generalize zs.length = len at *
  have hn1 : ¬ (n : Int) < 1 := by omega
  have hl0 : ¬ ((len : Int) = 0) := by omega
  have hp : (p : Int) < (len : Int) := by omega
  have hp0 : (0 : Int) ≤ (p : Int) := by omega
  have hnn : ¬ ((n : Int) = 0) := by omega
  have hzc : ∀ v, (w.setCell ⟨R, 1, none⟩ v).cell? ⟨b, off + p, none⟩ = some (.int .u8 z) := fun v => by rw [World.cell?_setCell_other _ _ _ _ (fun h => hne (congrArg Addr.block h).symm)]; exact hz
  have h0c : ∀ v, (w.setCell ⟨R, 1, none⟩ v).cell? ⟨R, 0, none⟩ = some (.slice (some ⟨b, off, none⟩) len cap) := fun v => by rw [World.cell?_setCell_other _ _ _ _ (by simp)]; exact c0
  clear hR
  go_enter Tryz.func43, Tryz.ntmps43
  go_wp2
  go_ret
  have hm0 := Int.emod_nonneg z hnn
  have hm1 := Int.emod_lt_of_pos z (show (0 : Int) < n by omega)
  exact ⟨⟨(z % (n : Int)).toNat, by omega, ret_int (Int.toNat_of_nonneg hm0).symm⟩, 0, rfl⟩

theorem wrapId (x : Int) (h : -9223372036854775808 ≤ x) (h' : x ≤ 9223372036854775807) : IntKind.i64.wrap x = x := by
  simp [IntKind.wrap, IntKind.bits, IntKind.signed]
  omega
theorem xorN (N : Nat) (hN : N < 4294967296) : bits .xor .i64 (N : Int) (wrap64 ((N : Int) / 64)) = ((N ^^^ N / 64 : Nat) : Int) := by
  have hw : wrap64 ((N : Int) / 64) = (N : Int) / 64 := by unfold wrap64; omega
  rw [hw]
  have hx : N ^^^ N / 64 < 2 ^ 32 := Nat.xor_lt_two_pow (by omega) (by omega)
  have h1 : (BitVec.ofInt 64 (N : Int)).toNat = N := by
    rw [BitVec.ofInt_natCast, BitVec.toNat_ofNat]; exact Nat.mod_eq_of_lt (by omega)
  have h2 : (BitVec.ofInt 64 ((N / 64 : Nat) : Int)).toNat = N / 64 := by
    rw [BitVec.ofInt_natCast, BitVec.toNat_ofNat]; exact Nat.mod_eq_of_lt (by omega)
  show IntKind.i64.wrap ((BitVec.ofInt 64 (N : Int) ^^^ BitVec.ofInt 64 ((N : Int) / 64)).toNat : Int) = _
  rw [show (N : Int) / 64 = ((N / 64 : Nat) : Int) by omega, BitVec.toNat_xor, h1, h2]
  exact wrapId _ (by omega) (by omega)

theorem pickFin (N n : Nat) (hN : N < 4294967296) (hn : 1 ≤ n) : ∃ m, m < n ∧ (bits .xor .i64 (N : Int) (wrap64 ((N : Int) / 64))).tmod (n : Int) = (m : Int) := by
  refine ⟨(N ^^^ N / 64) % n, Nat.mod_lt _ (by omega), ?_⟩
  rw [xorN N hN, Int.tmod_eq_emod_of_nonneg (by omega)]
  rfl

set_option maxHeartbeats 2000000 in
theorem pick2 (R b off cap p n len : Nat) (z y : Int) (w : World) (hR : Rdr w R (some ⟨b, off, none⟩) len cap p) (hne : b ≠ R)
    (hz : w.cell? ⟨b, off + p % len, none⟩ = some (.int .u8 z)) (hz0 : 0 ≤ z) (hz1 : z ≤ 255)
    (hy : w.cell? ⟨b, off + (p * 7 + 3) % len, none⟩ = some (.int .u8 y)) (hy0 : 0 ≤ y) (hy1 : y ≤ 255)
    (hl : len ≤ 2000) (hl1 : 1 ≤ len) (hge : len ≤ p) (hp : p ≤ 1000000) (hn : 1 ≤ n) (hn2 : n ≤ 1000000) :
    Calls Tryz.prog 43 #[.pointer (some ⟨R, 0, none⟩), .int .i64 n] w fun e w' => (∃ m : Nat, m < n ∧ e = .returned (.int .i64 m)) ∧ ∃ k, w' = (stepW w R p).drewN k := by
  have c0 := hR.c0
  have c1 := hR.c1
  have f1 := hR.fr 1
  have hn1 : ¬ (n : Int) < 1 := by omega
  have hl0 : ¬ ((len : Int) = 0) := by omega
  have hpl : ¬ (p : Int) < (len : Int) := by omega
  have hp0 : (0 : Int) ≤ (p : Int) := by omega
  have hnn : ¬ ((n : Int) = 0) := by omega
  have hlz : ¬ (len = 0) := by omega
  have hp1 : (p : Int) ≤ 1000000 := by omega
  have hc7 : ((p : Int) * 7 + 3) = ((p * 7 + 3 : Nat) : Int) := by omega
  obtain ⟨i1, hi1⟩ : ∃ i1, i1 = p % len := ⟨_, rfl⟩
  obtain ⟨i2, hi2⟩ : ∃ i2, i2 = (p * 7 + 3) % len := ⟨_, rfl⟩
  obtain ⟨q, hq⟩ : ∃ q, q = p / len := ⟨_, rfl⟩
  have e1 : (p : Int).tmod len = i1 := by rw [hi1, Int.tmod_eq_emod_of_nonneg hp0]; rfl
  have e2 : ((p : Int) * 7 + 3).tmod len = i2 := by rw [hi2, hc7, Int.tmod_eq_emod_of_nonneg (by omega)]; rfl
  have e3 : (p : Int).tdiv len = q := by rw [hq, Int.tdiv_eq_ediv_of_nonneg hp0]; rfl
  have g1 : i1 < len := by rw [hi1]; exact Nat.mod_lt _ (by omega)
  have g2 : i2 < len := by rw [hi2]; exact Nat.mod_lt _ (by omega)
  have g3 : q ≤ p := by rw [hq]; exact Nat.div_le_self _ _
  rw [← hi1] at hz
  rw [← hi2] at hy
  obtain ⟨N, hN⟩ : ∃ N : Nat, z * 131 + y * 1117 + (p : Int) * 29 + (q : Int) * 53 = N := ⟨(z * 131 + y * 1117 + (p : Int) * 29 + (q : Int) * 53).toNat, by omega⟩
  have hN1 : N < 4294967296 := by omega
  obtain ⟨m, hm, HM⟩ := pickFin N n hN1 hn
  have wz : IntKind.i64.wrap z = z := wrapId _ (by omega) (by omega)
  have wy : IntKind.i64.wrap y = y := wrapId _ (by omega) (by omega)
  have w1 : IntKind.i64.wrap (z * 131) = z * 131 := wrapId _ (by omega) (by omega)
  have w2 : IntKind.i64.wrap (y * 1117) = y * 1117 := wrapId _ (by omega) (by omega)
  have w3 : IntKind.i64.wrap (z * 131 + y * 1117) = z * 131 + y * 1117 := wrapId _ (by omega) (by omega)
  have w4 : IntKind.i64.wrap ((p : Int) * 29) = (p : Int) * 29 := wrapId _ (by omega) (by omega)
  have w5 : IntKind.i64.wrap (z * 131 + y * 1117 + (p : Int) * 29) = z * 131 + y * 1117 + (p : Int) * 29 := wrapId _ (by omega) (by omega)
  have w6 : IntKind.i64.wrap ((q : Int) * 53) = (q : Int) * 53 := wrapId _ (by omega) (by omega)
  have w7 : IntKind.i64.wrap (z * 131 + y * 1117 + (p : Int) * 29 + (q : Int) * 53) = N := by rw [hN]; exact wrapId _ (by omega) (by omega)
  have w8 : IntKind.i64.wrap ((p : Int) * 7) = (p : Int) * 7 := wrapId _ (by omega) (by omega)
  have w9 : IntKind.i64.wrap ((p : Int) * 7 + 3) = (p : Int) * 7 + 3 := wrapId _ (by omega) (by omega)
  have wq : IntKind.i64.wrap (q : Int) = q := wrapId _ (by omega) (by omega)
  clear hN hN1
  clear hi1 hi2 hq hc7
  have hzc : ∀ v, (w.setCell ⟨R, 1, none⟩ v).cell? ⟨b, off + i1, none⟩ = some (.int .u8 z) := fun v => by rw [World.cell?_setCell_other _ _ _ _ (fun h => hne (congrArg Addr.block h).symm)]; exact hz
  have hyc : ∀ v, (w.setCell ⟨R, 1, none⟩ v).cell? ⟨b, off + i2, none⟩ = some (.int .u8 y) := fun v => by rw [World.cell?_setCell_other _ _ _ _ (fun h => hne (congrArg Addr.block h).symm)]; exact hy
  have h0c : ∀ v, (w.setCell ⟨R, 1, none⟩ v).cell? ⟨R, 0, none⟩ = some (.slice (some ⟨b, off, none⟩) len cap) := fun v => by rw [World.cell?_setCell_other _ _ _ _ (by simp)]; exact c0
  clear hR
  go_enter Tryz.func43, Tryz.ntmps43
  go_wp2
  go_quiet (fail)
  go_wp2
  go_ret
  exact ⟨⟨m, hm, rfl⟩, nq, rfl⟩

/-- pick, at every reader: a number below n; the reader stands one position on, nothing else is written. -/
theorem pick (R : Nat) (a : Option Addr) (cap p n : Nat) (zs : List Int) (w : World) (hR : Rdr w R a zs.length cap p) (hz : RdB w a zs) (hne : ∀ x, a = some x → x.block ≠ R)
    (hl : zs.length ≤ 2000) (hp : p ≤ 1000000) (hn : 1 ≤ n) (hn2 : n ≤ 1000000) :
    Calls Tryz.prog 43 #[.pointer (some ⟨R, 0, none⟩), .int .i64 n] w fun e w' => (∃ m : Nat, m < n ∧ e = .returned (.int .i64 m)) ∧ ∃ k, w' = (stepW w R p).drewN k := by
  rcases hz with rfl | ⟨b, off, rfl, hc⟩
  · exact pick0 R a cap p n w hR hp hn hn2
  · have hb := hne _ rfl
    by_cases h0 : zs.length = 0
    · rw [h0] at hR
      exact pick0 R _ cap p n w hR hp hn hn2
    · by_cases hlt : p < zs.length
      · obtain ⟨h1, h2, h3⟩ := hc p hlt
        exact pick1 R b off cap p n zs w hR hb h1 h2 h3 hl hlt hn hn2
      · obtain ⟨h1, h2, h3⟩ := hc (p % zs.length) (Nat.mod_lt _ (by omega))
        obtain ⟨h4, h5, h6⟩ := hc ((p * 7 + 3) % zs.length) (Nat.mod_lt _ (by omega))
        exact pick2 R b off cap p n zs.length _ _ w hR hb h1 h2 h3 h4 h5 h6 hl (by omega) (by omega) hp hn hn2

end Go.Proofs.YtlogpbejfifgdaaGreat.RdA

/-
  The reader: what a call of it keeps; one and randomStamp. The position stays at most 10^6. For every reader; no further condition.
-/
namespace Go.Proofs.YtlogpbejfifgdaaGreat.RdB
open Go.RowKit Go.Proofs.YtlogpbejfifgdaaGreat.Base Go.Proofs.YtlogpbejfifgdaaGreat.RdA

/-- Blocks that were there, but block R, are as they were. -/
structure Wr (R : Nat) (w w' : World) : Prop where
  os : w'.os = w.os
  tape : w'.tape = w.tape
  output : w'.output = w.output
  size : w.heap.size ≤ w'.heap.size
  block : ∀ k, k < w.heap.size → k ≠ R → w'.heap[k]? = w.heap[k]?
theorem Wr.refl (R : Nat) (w : World) : Wr R w w := ⟨rfl, rfl, rfl, Nat.le_refl _, fun _ _ _ => rfl⟩
theorem Wr.trans {R : Nat} {a b c : World} (h : Wr R a b) (k : Wr R b c) : Wr R a c :=
  ⟨k.os.trans h.os, k.tape.trans h.tape, k.output.trans h.output, Nat.le_trans h.size k.size, fun i hi hne => (k.block i (Nat.lt_of_lt_of_le hi h.size) hne).trans (h.block i hi hne)⟩
theorem Wr.of_below {R : Nat} {a b : World} (h : Below a.heap.size a b) : Wr R a b := ⟨h.os, h.tape, h.output, h.size, fun k hk _ => h.block k hk⟩
theorem Wr.alloc {R : Nat} {a b : World} (h : Wr R a b) (o : Obj) : Wr R a (b.alloc o) := h.trans (.of_below ((Below.refl _ _).alloc (Nat.le_refl _) _))
theorem Wr.drew {R : Nat} {a b : World} (h : Wr R a b) : Wr R a b.drew := ⟨h.os, h.tape, h.output, h.size, h.block⟩
theorem Wr.drewN {R : Nat} {a b : World} (h : Wr R a b) (n : Nat) : Wr R a (b.drewN n) := ⟨h.os, h.tape, h.output, h.size, h.block⟩
theorem Wr.cell {R : Nat} {a b : World} (h : Wr R a b) {k o : Nat} (hk : k < a.heap.size) (hne : k ≠ R) : b.cell? ⟨k, o, none⟩ = a.cell? ⟨k, o, none⟩ := by
  simp only [World.cell?, h.block k hk hne]
theorem Wr.frozen {R : Nat} {a b : World} (h : Wr R a b) {k o : Nat} (hk : k < a.heap.size) (hne : k ≠ R) : b.frozen? ⟨k, o, none⟩ = a.frozen? ⟨k, o, none⟩ := by
  simp only [World.frozen?, h.block k hk hne]
theorem Wr.setNew {R : Nat} {a b : World} (h : Wr R a b) {x : Addr} (hx : a.heap.size ≤ x.block) (v : Value) : Wr R a (b.setCell x v) :=
  ⟨h.os, h.tape, h.output, by simpa using h.size, fun k hk hne => by rw [Below.heap_setCell _ _ _ _ (by omega)]; exact h.block k hk hne⟩
theorem Wr.set (w : World) (R o : Nat) (v : Value) : Wr R w (w.setCell ⟨R, o, none⟩ v) :=
  ⟨rfl, rfl, rfl, by simp, fun k hk hne => Below.heap_setCell _ _ _ _ hne⟩
/-- Blocks below n: none but R has been written: what is said below n of a call's own frame. -/
theorem Wr.below {R n : Nat} {a b : World} (h : Wr R a b) (hn : n ≤ a.heap.size) (hR : n ≤ R) : Below n a b := ⟨h.os, h.tape, h.output, h.size, fun k hk => h.block k (by omega) (by omega)⟩

/-- A reader at block R, its bytes in a block below n. -/
def RS (n : Nat) (w : World) (R : Nat) (a : Option Addr) (cap p : Nat) (zs : List Int) : Prop :=
  Rdr w R a zs.length cap p ∧ R < n ∧ zs.length ≤ 2000 ∧
    (zs = [] ∨ ∃ b off, a = some ⟨b, off, none⟩ ∧ b < n ∧ b ≠ R ∧ ∀ i, i < zs.length → w.cell? ⟨b, off + i, none⟩ = some (.int .u8 (zs.getD i 0)) ∧ 0 ≤ zs.getD i 0 ∧ zs.getD i 0 ≤ 255)
theorem RS.keep {n R cap p : Nat} {w w' : World} {a : Option Addr} {zs : List Int} (h : RS n w R a cap p zs) (e : ∀ k, k < n → w'.heap[k]? = w.heap[k]?) : RS n w' R a cap p zs := by
  obtain ⟨h1, h2, h3, h4⟩ := h
  refine ⟨(e R h2).trans h1, h2, h3, ?_⟩
  rcases h4 with h4 | ⟨b, off, ha, hb, hne, hc⟩
  · exact .inl h4
  · refine .inr ⟨b, off, ha, hb, hne, fun i hi => ?_⟩
    have := hc i hi
    simp only [World.cell?, e b hb] at this ⊢
    exact this
theorem RS.below {n R cap p : Nat} {w w' : World} {a : Option Addr} {zs : List Int} (h : RS n w R a cap p zs) (hb : Below n w w') : RS n w' R a cap p zs := h.keep fun k hk => hb.block k hk
theorem RS.setNew {n R cap p : Nat} {w : World} {a : Option Addr} {zs : List Int} (h : RS n w R a cap p zs) {x : Addr} (hx : n ≤ x.block) (v : Value) : RS n (w.setCell x v) R a cap p zs :=
  h.keep fun k hk => Below.heap_setCell _ _ _ _ (by omega)
theorem RS.drewN {n R cap p : Nat} {w : World} {a : Option Addr} {zs : List Int} (h : RS n w R a cap p zs) (k : Nat) : RS n (w.drewN k) R a cap p zs := h.keep fun _ _ => rfl
theorem RS.step {n R cap p : Nat} {w : World} {a : Option Addr} {zs : List Int} (h : RS n w R a cap p zs) : RS n (stepW w R p) R a cap (p + 1) zs := by
  obtain ⟨h1, h2, h3, h4⟩ := h
  refine ⟨?_, h2, h3, ?_⟩
  · have := Joins.block_setCell (i := 1) h1 (.int .i64 ((p : Int) + 1))
    simpa [stepW, Rdr] using this
  · rcases h4 with h4 | ⟨b, off, ha, hb, hne, hc⟩
    · exact .inl h4
    · refine .inr ⟨b, off, ha, hb, hne, fun i hi => ?_⟩
      have := hc i hi
      unfold stepW
      simp only [World.cell?, Below.heap_setCell w ⟨R, 1, none⟩ (.int .i64 ((p : Int) + 1)) b hne] at this ⊢
      exact this

theorem pickS (n R : Nat) (a : Option Addr) (cap p m : Nat) (zs : List Int) (w : World) (h : RS n w R a cap p zs) (hp : p ≤ 1000000) (hm : 1 ≤ m) (hm2 : m ≤ 1000000) :
    Calls Tryz.prog 43 #[.pointer (some ⟨R, 0, none⟩), .int .i64 m] w fun e w' => (∃ v : Nat, v < m ∧ e = .returned (.int .i64 v)) ∧ RS n w' R a cap (p + 1) zs ∧ Wr R w w' := by
  obtain ⟨h1, h2, h3, h4⟩ := id h
  have key : Calls Tryz.prog 43 #[.pointer (some ⟨R, 0, none⟩), .int .i64 m] w fun e w' => (∃ v : Nat, v < m ∧ e = .returned (.int .i64 v)) ∧ ∃ k, w' = (stepW w R p).drewN k := by
    rcases h4 with rfl | ⟨b, off, rfl, hb, hne, hc⟩
    · exact pick0 R a cap p m w h1 hp hm hm2
    · exact pick R _ cap p m zs w h1 (.inr ⟨b, off, rfl, hc⟩) (fun x hx => by cases hx; exact hne) h3 hp hm hm2
  refine key.mono fun e w' ⟨hv, k, hw⟩ => ⟨hv, ?_, ?_⟩
  · rw [hw]; exact h.step.drewN k
  · rw [hw]; exact (Wr.set w R 1 _).drewN k

theorem one (n R : Nat) (a : Option Addr) (cap p : Nat) (zs : List Int) (w : World) (h : RS n w R a cap p zs) (hp : p ≤ 1000000) (g L : Nat) (xs : Nat → Int)
    (hg : ∀ i, i < L → w.cell? ⟨g, i, none⟩ = some (.int .i64 (xs i))) (hgR : g ≠ R) (hgw : g < w.heap.size) (hL : 1 ≤ L) (hL2 : L ≤ 1000) :
    Calls Tryz.prog 44 #[.pointer (some ⟨R, 0, none⟩), .slice (some ⟨g, 0, none⟩) L L] w fun e w' => (∃ v : Int, e = .returned (.int .i64 v)) ∧ RS n w' R a cap (p + 1) zs ∧ Wr R w w' := by
  have HP := Lib.hid (pickS n R a cap p L zs w h hp hL (by omega))
  have HG := Lib.hid hg
  clear hg h
  go_enter Tryz.func44, Tryz.ntmps44
  go_wp2_with fail
  refine HP.out.mono ?_
  rintro e w1 ⟨⟨v, hv, rfl⟩, hs, hw⟩
  have hc : w1.cell? ⟨g, v, none⟩ = some (.int .i64 (xs v)) := (hw.cell hgw hgR).trans (HG.out v hv)
  have hv0 : (0 : Int) ≤ (v : Int) := by omega
  have hv1 : (v : Int) < (L : Int) := by omega
  go_wp2
  go_ret
  exact ⟨⟨_, rfl⟩, hs, hw⟩

end Go.Proofs.YtlogpbejfifgdaaGreat.RdB

/-
  The reader: randomStamp, anyStamp, newReader and DrawStampLess: they give some stamps, and write nothing that was there but the reader. For every reader whose position is at most 999000.
-/
namespace Go.Proofs.YtlogpbejfifgdaaGreat.RdC
open Go.RowKit Go.Proofs.YtlogpbejfifgdaaGreat.Base Go.Proofs.YtlogpbejfifgdaaGreat.RdA Go.Proofs.YtlogpbejfifgdaaGreat.RdB

/-- The result's own box of two zeros, not yet written. -/
def Res (k : Nat) (W : World) : Prop :=
  k < W.heap.size ∧ W.cell? ⟨k, 0, none⟩ = some (.int .i64 0) ∧ W.cell? ⟨k, 1, none⟩ = some (.int .i64 0) ∧ W.frozen? ⟨k, 0, none⟩ = false ∧ W.frozen? ⟨k, 1, none⟩ = false
theorem Res.new (w : World) (T : TypeId) : Res w.heap.size (w.alloc (.cells #[.int .i64 0, .int .i64 0] T)) := by
  refine ⟨by simp, ?_⟩
  simp [go_sem]
theorem Res.wr {k R : Nat} {W W' : World} (h : Res k W) (hw : Wr R W W') (hne : k ≠ R) : Res k W' := by
  obtain ⟨h0, h1, h2, h3, h4⟩ := h
  exact ⟨Nat.lt_of_lt_of_le h0 hw.size, (hw.cell h0 hne).trans h1, (hw.cell h0 hne).trans h2, (hw.frozen h0 hne).trans h3, (hw.frozen h0 hne).trans h4⟩
theorem Res.alloc {k : Nat} {W : World} (h : Res k W) (o : Obj) : Res k (W.alloc o) := h.wr (R := k + 1) ((Wr.refl _ _).alloc o) (by omega)

/-- What a call that draws from a reader and returns one stamp does. -/
def Draws (n R : Nat) (a : Option Addr) (cap q : Nat) (zs : List Int) (w : World) (e : Ending) (w' : World) : Prop :=
  (∃ s t : Int, e = .returned (.agg #[.int .i64 s, .int .i64 t])) ∧ (∃ p', p' ≤ q ∧ RS n w' R a cap p' zs) ∧ Wr R w w'

theorem randomStamp (n R : Nat) (a : Option Addr) (cap p : Nat) (zs : List Int) (w : World) (h : RS n w R a cap p zs) (hp : p ≤ 999000) (hn : n ≤ w.heap.size) :
    Calls Tryz.prog 59 #[.pointer (some ⟨R, 0, none⟩)] w (Draws n R a cap (p + 2) zs w) := by
  have hR : R < n := h.2.1
  have H := Lib.hid h
  have S0 := Lib.hid (Res.new w 37)
  clear h
  go_enter Tryz.func59, Tryz.ntmps59
  go_wp2_with fail
  refine (one n R a cap p zs _ (H.out.below ?_) (by omega) (w.heap.size + 1) 6 (fun i => [1, 2, 3, 5, 9, 99].getD i 0) ?_ (by omega) (by simp) (by omega) (by omega)).mono ?_
  · exact (((Below.refl n w).alloc hn _).alloc (by simp; omega) _)
  · intro i hi
    obtain rfl | rfl | rfl | rfl | rfl | rfl : i = 0 ∨ i = 1 ∨ i = 2 ∨ i = 3 ∨ i = 4 ∨ i = 5 := by omega
    all_goals simp [go_sem]
  rintro e w1 ⟨⟨v, rfl⟩, hs1, hw1⟩
  have S1 := (S0.out.alloc _).wr hw1 (by omega)
  have W1 : Wr R w w1 := (((Wr.refl R w).alloc _).alloc _).trans hw1
  clear hw1
  obtain ⟨hz1, c10, c11, f10, f11⟩ := id S1
  go_wp2_with fail
  refine (pickS n R a cap (p + 1) 3 zs _ hs1 (by omega) (by omega) (by omega)).mono ?_
  rintro e w2 ⟨⟨m, hm, rfl⟩, hs2, hw2⟩
  have S2 := S1.wr hw2 (by omega)
  have W2 : Wr R w w2 := W1.trans hw2
  clear hw2 c10 c11 f10 f11 hs1 hz1 S1
  obtain ⟨hz2, c20, c21, f20, f21⟩ := S2
  have HS2 := Lib.hid hs2
  clear hs2
  go_wp2
  refine bodyPost_ret (v := .agg #[.int .i64 v, .int .i64 m]) (by simp [results, Tryz.results59, go_sem, c20, c21]) rfl ⟨⟨_, _, rfl⟩, ⟨p + 1 + 1, by omega, (HS2.out.setNew hn _).setNew hn _⟩, (W2.setNew (Nat.le_refl _) _).setNew (Nat.le_refl _) _⟩

theorem anyStamp (n R : Nat) (a : Option Addr) (cap p : Nat) (zs : List Int) (w : World) (h : RS n w R a cap p zs) (hp : p ≤ 998000) (hn : n ≤ w.heap.size) :
    Calls Tryz.prog 45 #[.pointer (some ⟨R, 0, none⟩)] w (Draws n R a cap (p + 3) zs w) := by
  have hR : R < n := h.2.1
  have H := Lib.hid h
  have S0 := Lib.hid (Res.new w 37)
  clear h
  go_enter Tryz.func45, Tryz.ntmps45
  go_wp2_with fail
  refine (pickS n R a cap p 8 zs _ (H.out.below ((Below.refl n w).alloc hn _)) (by omega) (by omega) (by omega)).mono ?_
  rintro e w1 ⟨⟨m, hm, rfl⟩, hs1, hw1⟩
  have S1 := S0.out.wr hw1 (by omega)
  have W1 : Wr R w w1 := ((Wr.refl R w).alloc _).trans hw1
  clear hw1
  obtain ⟨hz1, c10, c11, f10, f11⟩ := id S1
  have HS1 := Lib.hid hs1
  clear hs1
  by_cases m0 : m = 0
  · subst m0
    go_wp2
    refine bodyPost_ret (v := .agg #[.int .i64 0, .int .i64 0]) (by simp [results, Tryz.results45, go_sem, c10, c11]) rfl ⟨⟨_, _, rfl⟩, ⟨p + 1, by omega, (HS1.out.setNew hn _).setNew hn _⟩, (W1.setNew (Nat.le_refl _) _).setNew (Nat.le_refl _) _⟩
  · by_cases m1 : m = 1
    · subst m1
      go_wp2_with fail
      refine (one n R a cap (p + 1) zs _ (HS1.out.below ((Below.refl n w1).alloc (by omega) _)) (by omega) w1.heap.size 3 (fun i => [0, 100, -1].getD i 0) ?_ (by omega) (by simp) (by omega) (by omega)).mono ?_
      · intro i hi
        obtain rfl | rfl | rfl : i = 0 ∨ i = 1 ∨ i = 2 := by omega
        all_goals simp [go_sem]
      rintro e w2 ⟨⟨v, rfl⟩, hs2, hw2⟩
      have S2 := (S1.alloc _).wr hw2 (by omega)
      have W2 : Wr R w w2 := (W1.alloc _).trans hw2
      clear hw2 c10 c11 f10 f11 hz1 S1
      obtain ⟨hz2, c20, c21, f20, f21⟩ := id S2
      go_wp2_with fail
      refine (pickS n R a cap (p + 1 + 1) 3 zs _ hs2 (by omega) (by omega) (by omega)).mono ?_
      rintro e w3 ⟨⟨m, hm, rfl⟩, hs3, hw3⟩
      have S3 := S2.wr hw3 (by omega)
      have W3 : Wr R w w3 := W2.trans hw3
      clear hw3 c20 c21 f20 f21 hz2 S2 hs2
      obtain ⟨hz3, c30, c31, f30, f31⟩ := S3
      have HS3 := Lib.hid hs3
      clear hs3
      go_wp2
      refine bodyPost_ret (v := .agg #[.int .i64 v, .int .i64 m]) (by simp [results, Tryz.results45, go_sem, c30, c31]) rfl ⟨⟨_, _, rfl⟩, ⟨p + 1 + 1 + 1, by omega, (HS3.out.setNew hn _).setNew hn _⟩, (W3.setNew (Nat.le_refl _) _).setNew (Nat.le_refl _) _⟩
    · by_cases m2 : m = 2
      · subst m2
        go_wp2_with fail
        refine (one n R a cap (p + 1) zs _ (HS1.out.below ((Below.refl n w1).alloc (by omega) _)) (by omega) w1.heap.size 2 (fun i => [3, -1].getD i 0) ?_ (by omega) (by simp) (by omega) (by omega)).mono ?_
        · intro i hi
          obtain rfl | rfl : i = 0 ∨ i = 1 := by omega
          all_goals simp [go_sem]
        rintro e w2 ⟨⟨v, rfl⟩, hs2, hw2⟩
        have S2 := (S1.alloc _).wr hw2 (by omega)
        have W2 : Wr R w w2 := (W1.alloc _).trans hw2
        clear hw2 c10 c11 f10 f11 hz1 S1
        obtain ⟨hz2, c20, c21, f20, f21⟩ := id S2
        have HS2 := Lib.hid hs2
        clear hs2
        go_wp2
        refine bodyPost_ret (v := .agg #[.int .i64 4, .int .i64 v]) (by simp [results, Tryz.results45, go_sem, c20, c21]) rfl ⟨⟨_, _, rfl⟩, ⟨p + 1 + 1, by omega, (HS2.out.setNew hn _).setNew hn _⟩, (W2.setNew (Nat.le_refl _) _).setNew (Nat.le_refl _) _⟩
      · have b0 : ¬ ((m : Int) = 0) := by omega
        have b1 : ¬ ((m : Int) = 1) := by omega
        have b2 : ¬ ((m : Int) = 2) := by omega
        go_wp2_with fail
        refine (randomStamp n R a cap (p + 1) zs _ HS1.out (by omega) (by omega)).mono ?_
        rintro e w2 ⟨⟨s, t, rfl⟩, ⟨p', hp', hs2⟩, hw2⟩
        have S2 := S1.wr hw2 (by omega)
        have W2 : Wr R w w2 := W1.trans hw2
        clear hw2 c10 c11 f10 f11 hz1 S1
        obtain ⟨hz2, c20, c21, f20, f21⟩ := id S2
        have HS2 := Lib.hid hs2
        clear hs2
        go_wp2
        refine bodyPost_ret (v := .agg #[.int .i64 s, .int .i64 t]) (by simp [results, Tryz.results45, go_sem, c20, c21]) rfl ⟨⟨_, _, rfl⟩, ⟨p', by omega, (HS2.out.setNew hn _).setNew hn _⟩, (W2.setNew (Nat.le_refl _) _).setNew (Nat.le_refl _) _⟩

end Go.Proofs.YtlogpbejfifgdaaGreat.RdC

/-
  The reader: newReader and DrawStampLess: two stamps, whatever the bytes. For every slice of bytes; no condition.
-/
namespace Go.Proofs.YtlogpbejfifgdaaGreat.RdD
open Go.RowKit Go.Proofs.YtlogpbejfifgdaaGreat.Base Go.Proofs.YtlogpbejfifgdaaGreat.RdA Go.Proofs.YtlogpbejfifgdaaGreat.RdB Go.Proofs.YtlogpbejfifgdaaGreat.RdC

theorem byte_wf {z : Int} (h : (Lit.int .u8 z).wf = true) : 0 ≤ z ∧ z ≤ 255 := by
  simp [Lit.wf, IntKind.min, IntKind.max, IntKind.bits, IntKind.signed] at h
  omega

theorem bytes_rd {w : World} {a : Option Addr} {len cap : Nat} {zs : List Int} (h : IsRow .u8 w a len cap zs) : ∃ xs : List Int, xs.length = len ∧ len ≤ cap ∧ RdB w a xs := by
  rcases h with ⟨rfl, rfl, rfl, rfl⟩ | ⟨x, rfl, hl, hm, hz, hc, hw⟩
  · exact ⟨[], rfl, Nat.le_refl _, .inl rfl⟩
  · refine ⟨zs.take len, by simp; omega, hl, ?_⟩
    by_cases h0 : len = 0
    · left; simp [h0]
    · obtain ⟨b, off, spot⟩ := x
      have h1 := hc 0 (by omega)
      have hspot : spot = none := by simpa [Addr.add] using World.cell?_spot h1
      subst hspot
      refine .inr ⟨b, off, rfl, fun i hi => ?_⟩
      have hi' : i < len := by simp at hi; omega
      have h2 := hc i (by omega)
      have e : (zs.take len).getD i 0 = zs.getD i 0 := by simp [List.getD_eq_getElem?_getD, hi']
      rw [e]
      refine ⟨?_, byte_wf (hw _ (by rw [List.getD_eq_getElem?_getD, List.getElem?_eq_getElem (by omega)]; exact List.getElem_mem _))⟩
      rw [← h2]
      congr 1
      unfold Addr.add
      by_cases i0 : i = 0 <;> simp [i0]

theorem rdb_below {w w' : World} {a : Option Addr} {zs : List Int} (h : RdB w a zs) (hb : Below w.heap.size w w') : RdB w' a zs := by
  rcases h with h | ⟨b, off, ha, hc⟩
  · exact .inl h
  · refine .inr ⟨b, off, ha, fun i hi => ⟨?_, (hc i hi).2⟩⟩
    exact (hb.cell (World.block_lt_of_cell? w _ (hc i hi).1)).trans (hc i hi).1

/-- A new reader, in a block of the call's own. -/
def NewR (w : World) (e : Ending) (w' : World) : Prop :=
  e = .returned (.pointer (some ⟨w.heap.size, 0, none⟩)) ∧ (∃ a cap zs, RS (w.heap.size + 1) w' w.heap.size a cap 0 zs) ∧ Below w.heap.size w w' ∧ w.heap.size < w'.heap.size

theorem newR_of (w : World) (a : Option Addr) (len cap : Nat) (zs : List Int) (hl : zs.length = len) (hr : RdB w a zs) (h2 : len ≤ 2000) :
    NewR w (.returned (.pointer (some ⟨w.heap.size, 0, none⟩))) (w.alloc (.cells #[.slice a len cap, .int .i64 0] 67)) := by
  have hb : Below w.heap.size w (w.alloc (.cells #[.slice a len cap, .int .i64 0] 67)) := (Below.refl _ _).alloc (Nat.le_refl _) _
  refine ⟨rfl, ⟨a, cap, zs, ?_, by omega, by omega, ?_⟩, hb, by simp⟩
  · rw [hl]
    exact heap_alloc_new w _
  · rcases rdb_below hr hb with h | ⟨b, off, ha, hc⟩
    · exact .inl h
    · by_cases h0 : zs.length = 0
      · exact .inl (List.length_eq_zero_iff.1 h0)
      · rcases hr with h | ⟨b', off', ha', hc'⟩
        · exact .inl h
        · obtain ⟨rfl, rfl⟩ : b = b' ∧ off = off' := by
            rw [ha] at ha'
            injection ha' with e
            injection e with e1 e2
            exact ⟨e1, e2⟩
          have lt : b < w.heap.size := World.block_lt_of_cell? w _ (hc' 0 (by omega)).1
          exact .inr ⟨b, off, ha, by omega, by omega, hc⟩

theorem newReader (a : Option Addr) (cap : Nat) (zs : List Int) (w : World) (hr : RdB w a zs) (hc : zs.length ≤ cap) :
    Calls Tryz.prog 21 #[.slice a zs.length cap] w (NewR w) := by
  by_cases h : zs.length ≤ 2000
  · have h' : ¬ (2000 : Int) < (zs.length : Int) := by omega
    have HN := Lib.hid (newR_of w a zs.length cap zs rfl hr h)
    clear hr
    go_enter Tryz.func21, Tryz.ntmps21
    go_wp2
    go_ret
    exact HN.out
  · have h' : (2000 : Int) < (zs.length : Int) := by omega
    have h2 : (2000 : Int) ≤ (cap : Int) := by omega
    have hr2 : RdB w a (zs.take 2000) := by
      rcases hr with h | ⟨b, off, ha, hcs⟩
      · subst h; simp at h'
      · refine .inr ⟨b, off, ha, fun i hi => ?_⟩
        have hi' : i < 2000 := by simp at hi; omega
        have e : (zs.take 2000).getD i 0 = zs.getD i 0 := by simp [List.getD_eq_getElem?_getD, hi']
        rw [e]
        exact hcs i (by omega)
    have HN := Lib.hid (fun c => newR_of w a 2000 c (zs.take 2000) (by simp; omega) hr2 (by omega))
    obtain ⟨b, off, rfl⟩ : ∃ b off, a = some ⟨b, off, none⟩ := by
      rcases hr with h | ⟨b, off, ha, _⟩
      · subst h; simp at h'
      · exact ⟨b, off, ha⟩
    clear hr hr2
    go_enter Tryz.func21, Tryz.ntmps21
    go_wp2
    go_ret
    exact HN.out _

end Go.Proofs.YtlogpbejfifgdaaGreat.RdD
