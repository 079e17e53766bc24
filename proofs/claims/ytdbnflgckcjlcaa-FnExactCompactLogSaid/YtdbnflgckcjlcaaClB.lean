/-
  CompactLog of the program with what it calls: contracts. For slices that read as a list of at most 2^20 operations.
-/
import Derived.Test.YtdbnflgckcjlcaaClA
import Derived.Test.YtdbnflgckcjlcaaK5
import Derived.Test.YtdbnflgckcjlcaaK2
import Derived.Outline
namespace Go.Proofs.Ytdbnflgckcjlcaa.ClB
open Go.RowKit Go.Proofs.Ytdbnflgckcjlcaa.Base Go.Proofs.Ytdbnflgckcjlcaa.St Go.Proofs.Ytdbnflgckcjlcaa.StB Go.Proofs.Ytdbnflgckcjlcaa.OpA Go.Proofs.Ytdbnflgckcjlcaa.OpB Go.Proofs.Ytdbnflgckcjlcaa.LgA Go.Proofs.Ytdbnflgckcjlcaa.LgB Go.Proofs.Ytdbnflgckcjlcaa.LgC Go.Proofs.Ytdbnflgckcjlcaa.LgF Go.Proofs.Ytdbnflgckcjlcaa.LgG Go.Proofs.Ytdbnflgckcjlcaa.LgH Go.Proofs.Ytdbnflgckcjlcaa.LgI Go.Proofs.Ytdbnflgckcjlcaa.LgP Go.Proofs.Ytdbnflgckcjlcaa.LgQ Go.Proofs.Ytdbnflgckcjlcaa.LgR Go.Proofs.Ytdbnflgckcjlcaa.LgS Go.Proofs.Ytdbnflgckcjlcaa.LgZ Go.Proofs.Ytdbnflgckcjlcaa.LwA Go.Proofs.Ytdbnflgckcjlcaa.ClA
set_option linter.unusedVariables false
attribute [local go_sem ↓] Go.wp_at_zero Go.wp_at_succ
attribute [local irreducible] Go.wpQuiet

set_option maxRecDepth 100000 in
set_option maxHeartbeats 2000000 in
theorem impl_supersedes (q o : OpV) (w : World) :
    Calls Try.prog 40 #[.agg #[.int .i64 q.i, .int .i64 q.j, .int .i64 q.k, .int .i64 q.ts, .int .i64 q.ta, .int .i64 q.fs, .int .i64 q.fa, .int .i64 q.ns, .int .i64 q.na, .int .i64 q.v, .bool q.en, .string q.tx], .agg #[.int .i64 o.i, .int .i64 o.j, .int .i64 o.k, .int .i64 o.ts, .int .i64 o.ta, .int .i64 o.fs, .int .i64 o.fa, .int .i64 o.ns, .int .i64 o.na, .int .i64 o.v, .bool o.en, .string o.tx]] w fun e w' => e = .returned (.bool (sup q o)) ∧ Below w.heap.size w w' := by
  obtain ⟨r, hr⟩ : ∃ r, sup q o = r := ⟨_, rfl⟩
  have hS := fun W => impl_StampLess o.i o.j q.i q.j W
  rw [hr]
  unfold sup lt at hr
  obtain ⟨l, hl⟩ : ∃ l, slt o.i o.j q.i q.j = l := ⟨_, rfl⟩
  rw [hl] at hr hS
  have HS := Lib.hid hS
  clear hl hS
  obtain ⟨w0, hw0⟩ : ∃ w0, w0 = (w.alloc (.cells #[.int .i64 q.i, .int .i64 q.j, .int .i64 q.k, .int .i64 q.ts, .int .i64 q.ta, .int .i64 q.fs, .int .i64 q.fa, .int .i64 q.ns, .int .i64 q.na, .int .i64 q.v, .bool q.en, .string q.tx] 63)).alloc (.cells #[.int .i64 o.i, .int .i64 o.j, .int .i64 o.k, .int .i64 o.ts, .int .i64 o.ta, .int .i64 o.fs, .int .i64 o.fa, .int .i64 o.ns, .int .i64 o.na, .int .i64 o.v, .bool o.en, .string o.tx] 63) := ⟨_, rfl⟩
  have hz0 : w.heap.size + 2 = w0.heap.size := by rw [hw0]; simp
  have R1 : w0.rangeAt w.heap.size 0 (opL q) := by
    rw [hw0]
    exact rangeAt_below (boxR w q) ((Below.refl _ _).alloc (Nat.le_refl _) _) (by simp)
  have R2 : w0.rangeAt (w.heap.size + 1) 0 (opL o) := by
    have := boxR (w.alloc (.cells #[.int .i64 q.i, .int .i64 q.j, .int .i64 q.k, .int .i64 q.ts, .int .i64 q.ta, .int .i64 q.fs, .int .i64 q.fa, .int .i64 q.ns, .int .i64 q.na, .int .i64 q.v, .bool q.en, .string q.tx] 63)) o
    rw [← hw0] at this
    simpa using this
  have B0 : Below w.heap.size w w0 := by rw [hw0]; exact ((Below.refl _ _).alloc (Nat.le_refl _) _).alloc (by simp) _
  have HW := Lib.hid hw0
  have HR1 := Lib.hid R1
  have HR2 := Lib.hid R2
  have HB0 := Lib.hid B0
  have HZ0 := Lib.hid hz0
  clear hw0 R1 R2 B0 hz0
  rcases (show (¬ o.k = 10) ∨ (o.k = 10 ∧ ¬ q.k = 10) ∨ (o.k = 10 ∧ q.k = 10 ∧ ¬ o.j = q.j) ∨ (o.k = 10 ∧ q.k = 10 ∧ o.j = q.j ∧ ¬ o.ts = q.ts) ∨ (o.k = 10 ∧ q.k = 10 ∧ o.j = q.j ∧ o.ts = q.ts ∧ ¬ o.ta = q.ta) ∨ (o.k = 10 ∧ q.k = 10 ∧ o.j = q.j ∧ o.ts = q.ts ∧ o.ta = q.ta) from by omega) with e1 | ⟨e1, e2⟩ | ⟨e1, e2, e4⟩ | ⟨e1, e2, e4, e5⟩ | ⟨e1, e2, e4, e5, e6⟩ | ⟨e1, e2, e4, e5, e6⟩
  · have hr2 : r = false := by rw [← hr]; simp [e1]
    have g1 : (o.k == 10) = false := by simp [e1]
    subst hr2
    clear hr e1
    go_enter Try.func40, Try.ntmps40
    go_wp2_with fail
    go_ret
    exact ⟨rfl, by first | (rw [← HW.out]; exact HB0.out) | exact ((Below.refl _ _).alloc (Nat.le_refl _) _).alloc (by simp) _⟩
  · have hr2 : r = false := by rw [← hr]; simp [e1, e2]
    have g1 : (o.k == 10) = true := by simp [e1]
    have g2 : (q.k == 10) = false := by simp [e2]
    subst hr2
    clear hr e1 e2
    go_enter Try.func40, Try.ntmps40
    go_wp2_with fail
    go_ret
    exact ⟨rfl, by first | (rw [← HW.out]; exact HB0.out) | exact ((Below.refl _ _).alloc (Nat.le_refl _) _).alloc (by simp) _⟩
  · cases l
    · have hr2 : r = false := by rw [← hr]; simp [e1, e2, e4]
      have g1 : (o.k == 10) = true := by simp [e1]
      have g2 : (q.k == 10) = true := by simp [e2]
      have g4 : (o.j == q.j) = false := by simp [e4]
      subst hr2
      clear hr e1 e2 e4
      go_enter Try.func40, Try.ntmps40
      go_wp2_with fail
      rw [← HW.out]
      refine (HS.out _).mono ?_
      rintro e w1 ⟨rfl, b1⟩
      have hB1 := HB0.out.trans (b1.mono HB0.out.size)
      have hz1 := HZ0.out
      obtain ⟨q0, q1, q2, q3, q4, q5, q6, q7, q8, q9, q10, q11⟩ := c12 (rangeAt_below HR1.out b1 (by omega))
      obtain ⟨o0, o1, o2, o3, o4, o5, o6, o7, o8, o9, o10, o11⟩ := c12 (rangeAt_below HR2.out b1 (by omega))
      clear hz1
      go_wp2
      go_ret
      exact ⟨rfl, hB1⟩
    · have hr2 : r = false := by rw [← hr]; simp [e1, e2, e4]
      have g1 : (o.k == 10) = true := by simp [e1]
      have g2 : (q.k == 10) = true := by simp [e2]
      have g4 : (o.j == q.j) = false := by simp [e4]
      subst hr2
      clear hr e1 e2 e4
      go_enter Try.func40, Try.ntmps40
      go_wp2_with fail
      rw [← HW.out]
      refine (HS.out _).mono ?_
      rintro e w1 ⟨rfl, b1⟩
      have hB1 := HB0.out.trans (b1.mono HB0.out.size)
      have hz1 := HZ0.out
      obtain ⟨q0, q1, q2, q3, q4, q5, q6, q7, q8, q9, q10, q11⟩ := c12 (rangeAt_below HR1.out b1 (by omega))
      obtain ⟨o0, o1, o2, o3, o4, o5, o6, o7, o8, o9, o10, o11⟩ := c12 (rangeAt_below HR2.out b1 (by omega))
      clear hz1
      go_wp2
      go_ret
      exact ⟨rfl, hB1⟩
  · cases l
    · have hr2 : r = false := by rw [← hr]; simp [e1, e2, e4, e5]
      have g1 : (o.k == 10) = true := by simp [e1]
      have g2 : (q.k == 10) = true := by simp [e2]
      have g4 : (o.j == q.j) = true := by simp [e4]
      have g5 : (o.ts == q.ts) = false := by simp [e5]
      subst hr2
      clear hr e1 e2 e4 e5
      go_enter Try.func40, Try.ntmps40
      go_wp2_with fail
      rw [← HW.out]
      refine (HS.out _).mono ?_
      rintro e w1 ⟨rfl, b1⟩
      have hB1 := HB0.out.trans (b1.mono HB0.out.size)
      have hz1 := HZ0.out
      obtain ⟨q0, q1, q2, q3, q4, q5, q6, q7, q8, q9, q10, q11⟩ := c12 (rangeAt_below HR1.out b1 (by omega))
      obtain ⟨o0, o1, o2, o3, o4, o5, o6, o7, o8, o9, o10, o11⟩ := c12 (rangeAt_below HR2.out b1 (by omega))
      clear hz1
      go_wp2
      go_ret
      exact ⟨rfl, hB1⟩
    · have hr2 : r = false := by rw [← hr]; simp [e1, e2, e4, e5]
      have g1 : (o.k == 10) = true := by simp [e1]
      have g2 : (q.k == 10) = true := by simp [e2]
      have g4 : (o.j == q.j) = true := by simp [e4]
      have g5 : (o.ts == q.ts) = false := by simp [e5]
      subst hr2
      clear hr e1 e2 e4 e5
      go_enter Try.func40, Try.ntmps40
      go_wp2_with fail
      rw [← HW.out]
      refine (HS.out _).mono ?_
      rintro e w1 ⟨rfl, b1⟩
      have hB1 := HB0.out.trans (b1.mono HB0.out.size)
      have hz1 := HZ0.out
      obtain ⟨q0, q1, q2, q3, q4, q5, q6, q7, q8, q9, q10, q11⟩ := c12 (rangeAt_below HR1.out b1 (by omega))
      obtain ⟨o0, o1, o2, o3, o4, o5, o6, o7, o8, o9, o10, o11⟩ := c12 (rangeAt_below HR2.out b1 (by omega))
      clear hz1
      go_wp2
      go_ret
      exact ⟨rfl, hB1⟩
  · cases l
    · have hr2 : r = false := by rw [← hr]; simp [e1, e2, e4, e5, e6]
      have g1 : (o.k == 10) = true := by simp [e1]
      have g2 : (q.k == 10) = true := by simp [e2]
      have g4 : (o.j == q.j) = true := by simp [e4]
      have g5 : (o.ts == q.ts) = true := by simp [e5]
      have g6 : (o.ta == q.ta) = false := by simp [e6]
      subst hr2
      clear hr e1 e2 e4 e5 e6
      go_enter Try.func40, Try.ntmps40
      go_wp2_with fail
      rw [← HW.out]
      refine (HS.out _).mono ?_
      rintro e w1 ⟨rfl, b1⟩
      have hB1 := HB0.out.trans (b1.mono HB0.out.size)
      have hz1 := HZ0.out
      obtain ⟨q0, q1, q2, q3, q4, q5, q6, q7, q8, q9, q10, q11⟩ := c12 (rangeAt_below HR1.out b1 (by omega))
      obtain ⟨o0, o1, o2, o3, o4, o5, o6, o7, o8, o9, o10, o11⟩ := c12 (rangeAt_below HR2.out b1 (by omega))
      clear hz1
      go_wp2
      go_ret
      exact ⟨rfl, hB1⟩
    · have hr2 : r = false := by rw [← hr]; simp [e1, e2, e4, e5, e6]
      have g1 : (o.k == 10) = true := by simp [e1]
      have g2 : (q.k == 10) = true := by simp [e2]
      have g4 : (o.j == q.j) = true := by simp [e4]
      have g5 : (o.ts == q.ts) = true := by simp [e5]
      have g6 : (o.ta == q.ta) = false := by simp [e6]
      subst hr2
      clear hr e1 e2 e4 e5 e6
      go_enter Try.func40, Try.ntmps40
      go_wp2_with fail
      rw [← HW.out]
      refine (HS.out _).mono ?_
      rintro e w1 ⟨rfl, b1⟩
      have hB1 := HB0.out.trans (b1.mono HB0.out.size)
      have hz1 := HZ0.out
      obtain ⟨q0, q1, q2, q3, q4, q5, q6, q7, q8, q9, q10, q11⟩ := c12 (rangeAt_below HR1.out b1 (by omega))
      obtain ⟨o0, o1, o2, o3, o4, o5, o6, o7, o8, o9, o10, o11⟩ := c12 (rangeAt_below HR2.out b1 (by omega))
      clear hz1
      go_wp2
      go_ret
      exact ⟨rfl, hB1⟩
  · cases l
    · have hr2 : r = false := by rw [← hr]; simp [e1, e2, e4, e5, e6]
      have g1 : (o.k == 10) = true := by simp [e1]
      have g2 : (q.k == 10) = true := by simp [e2]
      have g4 : (o.j == q.j) = true := by simp [e4]
      have g5 : (o.ts == q.ts) = true := by simp [e5]
      have g6 : (o.ta == q.ta) = true := by simp [e6]
      subst hr2
      clear hr e1 e2 e4 e5 e6
      go_enter Try.func40, Try.ntmps40
      go_wp2_with fail
      rw [← HW.out]
      refine (HS.out _).mono ?_
      rintro e w1 ⟨rfl, b1⟩
      have hB1 := HB0.out.trans (b1.mono HB0.out.size)
      have hz1 := HZ0.out
      obtain ⟨q0, q1, q2, q3, q4, q5, q6, q7, q8, q9, q10, q11⟩ := c12 (rangeAt_below HR1.out b1 (by omega))
      obtain ⟨o0, o1, o2, o3, o4, o5, o6, o7, o8, o9, o10, o11⟩ := c12 (rangeAt_below HR2.out b1 (by omega))
      clear hz1
      go_wp2
      go_ret
      exact ⟨rfl, hB1⟩
    · have hr2 : r = true := by rw [← hr]; simp [e1, e2, e4, e5, e6]
      have g1 : (o.k == 10) = true := by simp [e1]
      have g2 : (q.k == 10) = true := by simp [e2]
      have g4 : (o.j == q.j) = true := by simp [e4]
      have g5 : (o.ts == q.ts) = true := by simp [e5]
      have g6 : (o.ta == q.ta) = true := by simp [e6]
      subst hr2
      clear hr e1 e2 e4 e5 e6
      go_enter Try.func40, Try.ntmps40
      go_wp2_with fail
      rw [← HW.out]
      refine (HS.out _).mono ?_
      rintro e w1 ⟨rfl, b1⟩
      have hB1 := HB0.out.trans (b1.mono HB0.out.size)
      have hz1 := HZ0.out
      obtain ⟨q0, q1, q2, q3, q4, q5, q6, q7, q8, q9, q10, q11⟩ := c12 (rangeAt_below HR1.out b1 (by omega))
      obtain ⟨o0, o1, o2, o3, o4, o5, o6, o7, o8, o9, o10, o11⟩ := c12 (rangeAt_below HR2.out b1 (by omega))
      clear hz1
      go_wp2
      go_ret
      exact ⟨rfl, hB1⟩

set_option maxRecDepth 100000 in
set_option maxHeartbeats 2000000 in
theorem indexFunc (fn : FuncId) (p : Addr) (P : OpV → Bool) (a : Option Addr) (c : Nat) (os : List OpV) (w : World) (hr : RdO w a os) (hl : os.length ≤ 1048576)
    (HF : ∀ (args : Array Value) (W : World), (callFunc fn args).run Try.prog W = .ok (.enter fn args) W)
    (HK : ∀ o W, Below w.heap.size w W → Calls Try.prog fn #[.agg #[.int .i64 o.i, .int .i64 o.j, .int .i64 o.k, .int .i64 o.ts, .int .i64 o.ta, .int .i64 o.fs, .int .i64 o.fa, .int .i64 o.ns, .int .i64 o.na, .int .i64 o.v, .bool o.en, .string o.tx], .pointer (some p)] W fun e w' => e = .returned (.bool (P o)) ∧ Below W.heap.size W w') :
    Calls Try.prog 72 #[.slice a os.length c, .func (.func fn) #[] #[.pointer (some p)]] w fun e w' =>
      ((∃ k : Nat, e = .returned (.int .i64 k) ∧ k < os.length ∧ P (os.getD k zop) = true) ∨ (e = .returned (.int .i64 (-1)) ∧ ∀ m, m < os.length → P (os.getD m zop) = false)) ∧ Below w.heap.size w w' := by
  have HKK := Lib.hid HK
  clear HK
  rcases hr with rfl | ⟨b, off, rfl, hc⟩
  · go_enter Try.func72, Try.ntmps72
    go_wp2
    go_rounds 1
    go_ret
    exact ⟨.inr ⟨rfl, fun m hm => by cases hm⟩, Below.refl _ _⟩
  · have HC := Lib.hid hc
    clear hc
    go_enter Try.func72, Try.ntmps72
    go_wp2
    go_loopw [8] (fun i wr => ∃ k : Nat, k ≤ os.length ∧ i = .int .i64 k ∧ Hid (∀ m, m < k → P (os.getD m zop) = false) ∧ Below w.heap.size w wr) (fun i _ => os.length - (intOf i).toNat)
    case atStart => exact ⟨0, Nat.zero_le _, rfl, fun m hm => absurd hm (by omega), Below.refl _ _⟩
    case round =>
      obtain ⟨k, hk, rfl, hall, hnx⟩ := hrel
      by_cases hlt : k < os.length
      · obtain ⟨o, ho⟩ : ∃ o, o = os.getD k zop := ⟨_, rfl⟩
        have HR := Lib.hid (by rw [ho]; exact rangeAt_below (HC.out k hlt) hnx (rangeAt_lt (HC.out k hlt)) : wr.rangeAt b (off + k * 12) (opL o))
        have HCal := Lib.hid (HKK.out o wr hnx)
        obtain ⟨q, hq⟩ : ∃ q, P o = q := ⟨_, rfl⟩
        rw [hq] at HCal
        have HQ := Lib.hid (by rw [← ho]; exact hq : P (os.getD k zop) = q)
        clear ho hq
        have hk0 : (0 : Int) ≤ (k : Int) := Int.natCast_nonneg _
        have hk1 : (k : Int) < (os.length : Int) := by omega
        have hn := HF
        cases q
        · go_wp2_with (refine loadI rfl _ rfl rfl HR.out ?_)
          refine HCal.out.mono ?_
          rintro e w1 ⟨rfl, hb1⟩
          go_wp2
          go_roundw
          case rel => exact ⟨k + 1, by omega, by go_num, (fun m hm => by rcases (show m < k ∨ m = k by omega) with h | rfl; exact hall.out m h; exact HQ.out : ∀ m, m < k + 1 → P (os.getD m zop) = false), hnx.trans (hb1.mono hnx.size)⟩
          case measure => simp [intOf]; omega
        · go_wp2_with (refine loadI rfl _ rfl rfl HR.out ?_)
          refine HCal.out.mono ?_
          rintro e w1 ⟨rfl, hb1⟩
          go_wp2
          go_ret
          exact ⟨.inl ⟨k, rfl, hlt, HQ.out⟩, hnx.trans (hb1.mono hnx.size)⟩
      · obtain rfl : k = os.length := by omega
        go_wp2
        go_ret
        exact ⟨.inr ⟨rfl, hall.out⟩, hnx⟩

set_option maxRecDepth 100000 in
set_option maxHeartbeats 2000000 in
theorem containsFunc (fn : FuncId) (p : Addr) (P : OpV → Bool) (a : Option Addr) (c : Nat) (os : List OpV) (w : World) (hr : RdO w a os) (hl : os.length ≤ 1048576)
    (HF : ∀ (args : Array Value) (W : World), (callFunc fn args).run Try.prog W = .ok (.enter fn args) W)
    (HK : ∀ o W, Below w.heap.size w W → Calls Try.prog fn #[.agg #[.int .i64 o.i, .int .i64 o.j, .int .i64 o.k, .int .i64 o.ts, .int .i64 o.ta, .int .i64 o.fs, .int .i64 o.fa, .int .i64 o.ns, .int .i64 o.na, .int .i64 o.v, .bool o.en, .string o.tx], .pointer (some p)] W fun e w' => e = .returned (.bool (P o)) ∧ Below W.heap.size W w') :
    Calls Try.prog 38 #[.slice a os.length c, .func (.func fn) #[] #[.pointer (some p)]] w fun e w' => e = .returned (.bool (os.any P)) ∧ Below w.heap.size w w' := by
  have HI := Lib.hid (indexFunc fn p P a c os w hr hl HF HK)
  clear hr HF HK
  obtain ⟨r, hr2⟩ : ∃ r, os.any P = r := ⟨_, rfl⟩
  rw [hr2]
  have HR2 := Lib.hid hr2
  clear hr2
  go_enter Try.func38, Try.ntmps38
  go_wp2_with fail
  refine HI.out.mono ?_
  rintro e w1 ⟨h, hb1⟩
  rcases h with ⟨k, rfl, hk, hp⟩ | ⟨rfl, hn⟩
  · obtain rfl : r = true := by
      rw [← HR2.out, List.any_eq_true]
      exact ⟨_, getD_mem hk, hp⟩
    have hk0 : (0 : Int) ≤ (k : Int) := Int.natCast_nonneg _
    clear hp hk HR2
    go_wp2
    go_ret
    exact ⟨rfl, hb1⟩
  · obtain rfl : r = false := by
      rw [← HR2.out, List.any_eq_false]
      intro x hx
      obtain ⟨m, hm, rfl⟩ := mem_getD hx
      rw [hn m hm]
      exact Bool.false_ne_true
    clear hn HR2
    go_wp2
    go_ret
    exact ⟨rfl, hb1⟩

theorem enC1 : ∀ (args : Array Value) (W : World), (callFunc 39 args).run Try.prog W = .ok (.enter 39 args) W := enters Try.func39 (by kernel_rfl) (by kernel_rfl)
theorem enC : ∀ (args : Array Value) (W : World), (callFunc 37 args).run Try.prog W = .ok (.enter 37 args) W := enters Try.func37 (by kernel_rfl) (by kernel_rfl)

set_option maxRecDepth 100000 in
set_option maxHeartbeats 2000000 in
theorem later_clo (q o : OpV) (bx : Nat) (w : World) (h : w.rangeAt bx 0 (opL o)) :
    Calls Try.prog 39 #[.agg #[.int .i64 q.i, .int .i64 q.j, .int .i64 q.k, .int .i64 q.ts, .int .i64 q.ta, .int .i64 q.fs, .int .i64 q.fa, .int .i64 q.ns, .int .i64 q.na, .int .i64 q.v, .bool q.en, .string q.tx], .pointer (some ⟨bx, 0, none⟩)] w fun e w' => e = .returned (.bool (sup q o)) ∧ Below w.heap.size w w' := by
  have HS := Lib.hid (fun W => impl_supersedes q o W)
  have hB : Below w.heap.size w (w.alloc (.cells #[.int .i64 q.i, .int .i64 q.j, .int .i64 q.k, .int .i64 q.ts, .int .i64 q.ta, .int .i64 q.fs, .int .i64 q.fa, .int .i64 q.ns, .int .i64 q.na, .int .i64 q.v, .bool q.en, .string q.tx] 63)) := (Below.refl _ _).alloc (Nat.le_refl _) _
  have HR1 := Lib.hid (boxR w q)
  have HR2 := Lib.hid (rangeAt_below h hB (rangeAt_lt h))
  have HB := Lib.hid hB
  have lb : bx < w.heap.size := rangeAt_lt h
  clear h hB
  go_enter Try.func39, Try.ntmps39
  go_wp2_with (first | (refine loadI rfl _ rfl rfl HR1.out ?_) | (refine loadI rfl _ rfl rfl HR2.out ?_) | fail)
  refine (HS.out _).mono ?_
  rintro e w1 ⟨rfl, hb1⟩
  go_wp2
  go_ret
  exact ⟨rfl, HB.out.trans (hb1.mono HB.out.size)⟩

set_option maxRecDepth 100000 in
set_option maxHeartbeats 2000000 in
theorem need_clo (a : Option Addr) (c : Nat) (os : List OpV) (o : OpV) (bx : Nat) (w : World) (hr : RdO w a os) (hl : os.length ≤ 1048576) (h : w.cell? ⟨bx, 0, none⟩ = some (.slice a os.length c)) :
    Calls Try.prog 37 #[.agg #[.int .i64 o.i, .int .i64 o.j, .int .i64 o.k, .int .i64 o.ts, .int .i64 o.ta, .int .i64 o.fs, .int .i64 o.fa, .int .i64 o.ns, .int .i64 o.na, .int .i64 o.v, .bool o.en, .string o.tx], .pointer (some ⟨bx, 0, none⟩)] w fun e w' => e = .returned (.bool (need os o)) ∧ Below w.heap.size w w' := by
  have lb : bx < w.heap.size := World.block_lt_of_cell? w _ h
  have hB : Below w.heap.size w (w.alloc (.cells #[.int .i64 o.i, .int .i64 o.j, .int .i64 o.k, .int .i64 o.ts, .int .i64 o.ta, .int .i64 o.fs, .int .i64 o.fa, .int .i64 o.ns, .int .i64 o.na, .int .i64 o.v, .bool o.en, .string o.tx] 63)) := (Below.refl _ _).alloc (Nat.le_refl _) _
  have HR := Lib.hid (boxR w o)
  have HC := Lib.hid (containsFunc 39 ⟨w.heap.size, 0, none⟩ (fun q => sup q o) a c os (w.alloc (.cells #[.int .i64 o.i, .int .i64 o.j, .int .i64 o.k, .int .i64 o.ts, .int .i64 o.ta, .int .i64 o.fs, .int .i64 o.fa, .int .i64 o.ns, .int .i64 o.na, .int .i64 o.v, .bool o.en, .string o.tx] 63)) (hr.below hB) hl enC1 (fun q W hW => later_clo q o w.heap.size W (rangeAt_below HR.out hW (by simp))))
  have HB := Lib.hid hB
  have hx : need os o = !os.any (fun q => sup q o) := rfl
  rw [hx]
  generalize os.any (fun q => sup q o) = r at HC ⊢
  clear hr hB hx
  go_enter Try.func37, Try.ntmps37
  go_wp2_with fail
  refine HC.out.mono ?_
  rintro e w1 ⟨rfl, hb1⟩
  go_wp2
  go_ret
  exact ⟨rfl, HB.out.trans (hb1.mono HB.out.size)⟩

set_option maxRecDepth 100000 in
set_option maxHeartbeats 1000000 in
theorem impl_CompactLog (a : Option Addr) (c : Nat) (os : List OpV) (w : World) (hr : RdO w a os) (hl : os.length ≤ 1048576) (ht : ∀ k, k < os.length → (os.getD k zop).tx.size ≤ maxLen) :
    Calls Try.prog 14 #[.slice a os.length c] w (GivesO w (cmp os)) := by
  have HV := Lib.hid (fun W (h : Below w.heap.size w W) => impl_ValidLog ivop a c os W (hr.below h) hl ht)
  have HR := Lib.hid hr
  have hx : cmp os = if vlog os then keepTo (need os) os os.length else [] := rfl
  rw [hx]
  obtain ⟨p, hp⟩ : ∃ p, vlog os = p := ⟨_, rfl⟩
  rw [hp] at HV
  rw [hp]
  have HP := Lib.hid hp
  obtain ⟨w0, hw0⟩ : ∃ w0, w0 = w.alloc (.cells #[.slice a os.length c] 29) := ⟨_, rfl⟩
  have HW := Lib.hid hw0
  have HB1 := Lib.hid (show Below w.heap.size w w0 from by rw [hw0]; exact (Below.refl _ _).alloc (Nat.le_refl _) _)
  have HC0 := Lib.hid (by rw [hw0]; simp [go_sem] : w0.cell? ⟨w.heap.size, 0, none⟩ = some (.slice a os.length c))
  have HZ2 := Lib.hid (by rw [hw0]; simp : w.heap.size < w0.heap.size)
  clear hr ht hx hp hw0
  cases p
  · go_enter Try.func14, Try.ntmps14
    go_wp2_with fail
    rw [← HW.out]
    have c0 := HC0.out
    refine (HV.out _ HB1.out).mono ?_
    rintro e w2 ⟨rfl, hb2⟩
    go_wp2
    go_ret
    exact GivesO.from (HB1.out.trans (hb2.mono HB1.out.size)) (givesO_nil _)
  · go_enter Try.func14, Try.ntmps14
    go_wp2_with fail
    rw [← HW.out]
    refine (HV.out _ HB1.out).mono ?_
    rintro e w2 ⟨rfl, hb2⟩
    have hB2 := HB1.out.trans (hb2.mono HB1.out.size)
    have hz3 := hb2.size
    have c2 := (hb2.cell (p := ⟨w.heap.size, 0, none⟩) HZ2.out).trans HC0.out
    go_wp2_with fail
    refine (opSet _ _ _ _).mono ?_
    rintro e w3 ⟨rfl, hb3⟩
    have hB3 := hB2.trans (hb3.mono hB2.size)
    have hz4 := hb3.size
    have hz5 : w.heap.size < w2.heap.size := Nat.lt_of_lt_of_le HZ2.out hz3
    go_wp2_with fail
    refine (filter 37 ⟨w.heap.size, 0, none⟩ (need os) a c os w3 (HR.out.below hB3) hl (allTo_of HP.out) enC (fun o W hW hst => ?_)).mono ?_
    · have cc := (hW.cell (p := ⟨w.heap.size, 0, none⟩) (by show w.heap.size < _; omega)).trans ((hb3.cell (p := ⟨w.heap.size, 0, none⟩) hz5).trans c2)
      exact need_clo a c os o w.heap.size W (HR.out.below (hB3.trans (hW.mono hB3.size))) hl cc
    · rintro e w4 ⟨v, rfl, hown, hb4⟩
      have hB4 := hB3.trans (hb4.mono hB3.size)
      obtain ⟨av, cv', rfl, _⟩ := ownedO hown
      have hfd := field0 av (keepTo (need os) os os.length).length cv' (.func (.func 74) #[] #[])
      go_wp2
      go_ret
      exact (OwnsO.lower hown hB3.size).gives hB4

end Go.Proofs.Ytdbnflgckcjlcaa.ClB
