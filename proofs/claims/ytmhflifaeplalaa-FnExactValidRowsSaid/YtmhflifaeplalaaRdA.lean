/-
  The reader that the named laws draw their arguments with: what it is, and the contract of pick where no byte is mixed. Its bytes are at most 2000, its position at most 10^6.
-/
import Derived.Test.YtmhflifaeplalaaBase
namespace Go.Proofs.Ytmhflifaeplalaa.RdA
open Go.RowKit Go.Proofs.Ytmhflifaeplalaa.Base

/-- A slice of bytes. -/
def RdB (w : World) (a : Option Addr) (zs : List Int) : Prop :=
  zs = [] ∨ ∃ b off, a = some ⟨b, off, none⟩ ∧ ∀ i, i < zs.length → w.cell? ⟨b, off + i, none⟩ = some (.int .u8 (zs.getD i 0)) ∧ 0 ≤ zs.getD i 0 ∧ zs.getD i 0 ≤ 255
/-- Block R is a reader over that slice, at position p. -/
def Rdr (w : World) (R : Nat) (a : Option Addr) (len cap p : Nat) : Prop := w.heap[R]? = some (.cells #[.slice a len cap, .int .i64 p] 111 (0, 0))
theorem Rdr.lt {w : World} {R : Nat} {a : Option Addr} {len cap p : Nat} (h : Rdr w R a len cap p) : R < w.heap.size := by
  by_cases hs : R < w.heap.size
  · exact hs
  · simp [Rdr, Array.getElem?_eq_none (Nat.le_of_not_lt hs)] at h
theorem Rdr.c0 {w : World} {R : Nat} {a : Option Addr} {len cap p : Nat} (h : Rdr w R a len cap p) : w.cell? ⟨R, 0, none⟩ = some (.slice a len cap) := by simp [World.cell?, show w.heap[R]? = _ from h]
theorem Rdr.c1 {w : World} {R : Nat} {a : Option Addr} {len cap p : Nat} (h : Rdr w R a len cap p) : w.cell? ⟨R, 1, none⟩ = some (.int .i64 p) := by simp [World.cell?, show w.heap[R]? = _ from h]
theorem Rdr.fr {w : World} {R : Nat} {a : Option Addr} {len cap p : Nat} (h : Rdr w R a len cap p) (i : Nat) : w.frozen? ⟨R, i, none⟩ = false := by simp [World.frozen?, show w.heap[R]? = _ from h]
/-- The reader one position on. -/
noncomputable def stepW (w : World) (R p : Nat) : World := w.setCell ⟨R, 1, none⟩ (.int .i64 ((p : Int) + 1))

theorem pick0 (R : Nat) (a : Option Addr) (cap p n : Nat) (w : World) (hR : Rdr w R a 0 cap p) (hp : p ≤ 1000000) (hn : 1 ≤ n) (hn2 : n ≤ 1000000) :
    Calls Try.prog 46 #[.pointer (some ⟨R, 0, none⟩), .int .i64 n] w fun e w' => (∃ m : Nat, m < n ∧ e = .returned (.int .i64 m)) ∧ ∃ k, w' = (stepW w R p).drewN k := by
  have c0 := hR.c0
  have c1 := hR.c1
  have f1 := hR.fr 1
  have hlt : ¬ (n : Int) < 1 := by omega
  clear hR
  go_enter Try.func46, Try.ntmps46
  go_wp2
  go_ret
  exact ⟨⟨0, by omega, rfl⟩, 0, rfl⟩

theorem pick1 (R b off cap p n : Nat) (zs : List Int) (w : World) (hR : Rdr w R (some ⟨b, off, none⟩) zs.length cap p) (hne : b ≠ R)
    (hz : w.cell? ⟨b, off + p, none⟩ = some (.int .u8 (zs.getD p 0))) (hz0 : 0 ≤ zs.getD p 0) (hz1 : zs.getD p 0 ≤ 255) (hl : zs.length ≤ 2000) (hlt : p < zs.length) (hn : 1 ≤ n) (hn2 : n ≤ 1000000) :
    Calls Try.prog 46 #[.pointer (some ⟨R, 0, none⟩), .int .i64 n] w fun e w' => (∃ m : Nat, m < n ∧ e = .returned (.int .i64 m)) ∧ ∃ k, w' = (stepW w R p).drewN k := by
  have c0 := hR.c0
  have c1 := hR.c1
  have f1 := hR.fr 1
  generalize zs.getD p 0 = z at hz hz0 hz1
  generalize zs.length = len at *
  have hn1 : ¬ (n : Int) < 1 := by omega
  have hl0 : ¬ ((len : Int) = 0) := by omega
  have hp : (p : Int) < (len : Int) := by omega
  have hp0 : (0 : Int) ≤ (p : Int) := by omega
  have hnn : ¬ ((n : Int) = 0) := by omega
  have hzc : ∀ v, (w.setCell ⟨R, 1, none⟩ v).cell? ⟨b, off + p, none⟩ = some (.int .u8 z) := fun v => by rw [World.cell?_setCell_other _ _ _ _ (fun h => hne (congrArg Addr.block h).symm)]; exact hz
  have h0c : ∀ v, (w.setCell ⟨R, 1, none⟩ v).cell? ⟨R, 0, none⟩ = some (.slice (some ⟨b, off, none⟩) len cap) := fun v => by rw [World.cell?_setCell_other _ _ _ _ (by simp)]; exact c0
  clear hR
  go_enter Try.func46, Try.ntmps46
  go_wp2
  go_ret
  have hm0 := Int.emod_nonneg z hnn
  have hm1 := Int.emod_lt_of_pos z (show (0 : Int) < n by omega)
  exact ⟨⟨(z % (n : Int)).toNat, by omega, ret_int (Int.toNat_of_nonneg hm0).symm⟩, 0, rfl⟩

theorem wrapId (x : Int) (h : -9223372036854775808 ≤ x) (h' : x ≤ 9223372036854775807) : IntKind.i64.wrap x = x := by
  simp [IntKind.wrap, IntKind.bits, IntKind.signed]
  omega
theorem xorN (N : Nat) (hN : N < 4294967296) : bits .xor .i64 (N : Int) (wrap64 ((N : Int) / 64)) = ((N ^^^ N / 64 : Nat) : Int) := by
  have hw : wrap64 ((N : Int) / 64) = (N : Int) / 64 := by unfold wrap64; omega
  rw [hw]
  have hx : N ^^^ N / 64 < 2 ^ 32 := Nat.xor_lt_two_pow (by omega) (by omega)
  have h1 : (BitVec.ofInt 64 (N : Int)).toNat = N := by
    rw [BitVec.ofInt_natCast, BitVec.toNat_ofNat]; exact Nat.mod_eq_of_lt (by omega)
  have h2 : (BitVec.ofInt 64 ((N / 64 : Nat) : Int)).toNat = N / 64 := by
    rw [BitVec.ofInt_natCast, BitVec.toNat_ofNat]; exact Nat.mod_eq_of_lt (by omega)
  show IntKind.i64.wrap ((BitVec.ofInt 64 (N : Int) ^^^ BitVec.ofInt 64 ((N : Int) / 64)).toNat : Int) = _
  rw [show (N : Int) / 64 = ((N / 64 : Nat) : Int) by omega, BitVec.toNat_xor, h1, h2]
  exact wrapId _ (by omega) (by omega)

theorem pickFin (N n : Nat) (hN : N < 4294967296) (hn : 1 ≤ n) : ∃ m, m < n ∧ (bits .xor .i64 (N : Int) (wrap64 ((N : Int) / 64))).tmod (n : Int) = (m : Int) := by
  refine ⟨(N ^^^ N / 64) % n, Nat.mod_lt _ (by omega), ?_⟩
  rw [xorN N hN, Int.tmod_eq_emod_of_nonneg (by omega)]
  rfl

set_option maxHeartbeats 2000000 in
theorem pick2 (R b off cap p n len : Nat) (z y : Int) (w : World) (hR : Rdr w R (some ⟨b, off, none⟩) len cap p) (hne : b ≠ R)
    (hz : w.cell? ⟨b, off + p % len, none⟩ = some (.int .u8 z)) (hz0 : 0 ≤ z) (hz1 : z ≤ 255)
    (hy : w.cell? ⟨b, off + (p * 7 + 3) % len, none⟩ = some (.int .u8 y)) (hy0 : 0 ≤ y) (hy1 : y ≤ 255)
    (hl : len ≤ 2000) (hl1 : 1 ≤ len) (hge : len ≤ p) (hp : p ≤ 1000000) (hn : 1 ≤ n) (hn2 : n ≤ 1000000) :
    Calls Try.prog 46 #[.pointer (some ⟨R, 0, none⟩), .int .i64 n] w fun e w' => (∃ m : Nat, m < n ∧ e = .returned (.int .i64 m)) ∧ ∃ k, w' = (stepW w R p).drewN k := by
  have c0 := hR.c0
  have c1 := hR.c1
  have f1 := hR.fr 1
  have hn1 : ¬ (n : Int) < 1 := by omega
  have hl0 : ¬ ((len : Int) = 0) := by omega
  have hpl : ¬ (p : Int) < (len : Int) := by omega
  have hp0 : (0 : Int) ≤ (p : Int) := by omega
  have hnn : ¬ ((n : Int) = 0) := by omega
  have hlz : ¬ (len = 0) := by omega
  have hp1 : (p : Int) ≤ 1000000 := by omega
  have hc7 : ((p : Int) * 7 + 3) = ((p * 7 + 3 : Nat) : Int) := by omega
  obtain ⟨i1, hi1⟩ : ∃ i1, i1 = p % len := ⟨_, rfl⟩
  obtain ⟨i2, hi2⟩ : ∃ i2, i2 = (p * 7 + 3) % len := ⟨_, rfl⟩
  obtain ⟨q, hq⟩ : ∃ q, q = p / len := ⟨_, rfl⟩
  have e1 : (p : Int).tmod len = i1 := by rw [hi1, Int.tmod_eq_emod_of_nonneg hp0]; rfl
  have e2 : ((p : Int) * 7 + 3).tmod len = i2 := by rw [hi2, hc7, Int.tmod_eq_emod_of_nonneg (by omega)]; rfl
  have e3 : (p : Int).tdiv len = q := by rw [hq, Int.tdiv_eq_ediv_of_nonneg hp0]; rfl
  have g1 : i1 < len := by rw [hi1]; exact Nat.mod_lt _ (by omega)
  have g2 : i2 < len := by rw [hi2]; exact Nat.mod_lt _ (by omega)
  have g3 : q ≤ p := by rw [hq]; exact Nat.div_le_self _ _
  rw [← hi1] at hz
  rw [← hi2] at hy
  obtain ⟨N, hN⟩ : ∃ N : Nat, z * 131 + y * 1117 + (p : Int) * 29 + (q : Int) * 53 = N := ⟨(z * 131 + y * 1117 + (p : Int) * 29 + (q : Int) * 53).toNat, by omega⟩
  have hN1 : N < 4294967296 := by omega
  obtain ⟨m, hm, HM⟩ := pickFin N n hN1 hn
  have wz : IntKind.i64.wrap z = z := wrapId _ (by omega) (by omega)
  have wy : IntKind.i64.wrap y = y := wrapId _ (by omega) (by omega)
  have w1 : IntKind.i64.wrap (z * 131) = z * 131 := wrapId _ (by omega) (by omega)
  have w2 : IntKind.i64.wrap (y * 1117) = y * 1117 := wrapId _ (by omega) (by omega)
  have w3 : IntKind.i64.wrap (z * 131 + y * 1117) = z * 131 + y * 1117 := wrapId _ (by omega) (by omega)
  have w4 : IntKind.i64.wrap ((p : Int) * 29) = (p : Int) * 29 := wrapId _ (by omega) (by omega)
  have w5 : IntKind.i64.wrap (z * 131 + y * 1117 + (p : Int) * 29) = z * 131 + y * 1117 + (p : Int) * 29 := wrapId _ (by omega) (by omega)
  have w6 : IntKind.i64.wrap ((q : Int) * 53) = (q : Int) * 53 := wrapId _ (by omega) (by omega)
  have w7 : IntKind.i64.wrap (z * 131 + y * 1117 + (p : Int) * 29 + (q : Int) * 53) = N := by rw [hN]; exact wrapId _ (by omega) (by omega)
  have w8 : IntKind.i64.wrap ((p : Int) * 7) = (p : Int) * 7 := wrapId _ (by omega) (by omega)
  have w9 : IntKind.i64.wrap ((p : Int) * 7 + 3) = (p : Int) * 7 + 3 := wrapId _ (by omega) (by omega)
  have wq : IntKind.i64.wrap (q : Int) = q := wrapId _ (by omega) (by omega)
  clear hN hN1
  clear hi1 hi2 hq hc7
  have hzc : ∀ v, (w.setCell ⟨R, 1, none⟩ v).cell? ⟨b, off + i1, none⟩ = some (.int .u8 z) := fun v => by rw [World.cell?_setCell_other _ _ _ _ (fun h => hne (congrArg Addr.block h).symm)]; exact hz
  have hyc : ∀ v, (w.setCell ⟨R, 1, none⟩ v).cell? ⟨b, off + i2, none⟩ = some (.int .u8 y) := fun v => by rw [World.cell?_setCell_other _ _ _ _ (fun h => hne (congrArg Addr.block h).symm)]; exact hy
  have h0c : ∀ v, (w.setCell ⟨R, 1, none⟩ v).cell? ⟨R, 0, none⟩ = some (.slice (some ⟨b, off, none⟩) len cap) := fun v => by rw [World.cell?_setCell_other _ _ _ _ (by simp)]; exact c0
  clear hR
  go_enter Try.func46, Try.ntmps46
  go_wp2
  go_quiet (fail)
  go_wp2
  go_ret
  exact ⟨⟨m, hm, rfl⟩, nq, rfl⟩

/-- pick, at every reader: a number below n; the reader stands one position on, nothing else is written. -/
theorem pick (R : Nat) (a : Option Addr) (cap p n : Nat) (zs : List Int) (w : World) (hR : Rdr w R a zs.length cap p) (hz : RdB w a zs) (hne : ∀ x, a = some x → x.block ≠ R)
    (hl : zs.length ≤ 2000) (hp : p ≤ 1000000) (hn : 1 ≤ n) (hn2 : n ≤ 1000000) :
    Calls Try.prog 46 #[.pointer (some ⟨R, 0, none⟩), .int .i64 n] w fun e w' => (∃ m : Nat, m < n ∧ e = .returned (.int .i64 m)) ∧ ∃ k, w' = (stepW w R p).drewN k := by
  rcases hz with rfl | ⟨b, off, rfl, hc⟩
  · exact pick0 R a cap p n w hR hp hn hn2
  · have hb := hne _ rfl
    by_cases h0 : zs.length = 0
    · rw [h0] at hR
      exact pick0 R _ cap p n w hR hp hn hn2
    · by_cases hlt : p < zs.length
      · obtain ⟨h1, h2, h3⟩ := hc p hlt
        exact pick1 R b off cap p n zs w hR hb h1 h2 h3 hl hlt hn hn2
      · obtain ⟨h1, h2, h3⟩ := hc (p % zs.length) (Nat.mod_lt _ (by omega))
        obtain ⟨h4, h5, h6⟩ := hc ((p * 7 + 3) % zs.length) (Nat.mod_lt _ (by omega))
        exact pick2 R b off cap p n zs.length _ _ w hR hb h1 h2 h3 h4 h5 h6 hl (by omega) (by omega) hp hn hn2

end Go.Proofs.Ytmhflifaeplalaa.RdA
