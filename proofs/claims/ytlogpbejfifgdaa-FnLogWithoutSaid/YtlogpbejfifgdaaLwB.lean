/-
  LogWithout of the program, its closure, and LogWithout of the model: contracts. For slices that read as a list of at most 2^20 operations.
-/
import Derived.Test.YtlogpbejfifgdaaLwA
import Derived.Test.YtlogpbejfifgdaaK5
import Derived.Test.YtlogpbejfifgdaaK2
import Derived.Outline
namespace Go.Proofs.Ytlogpbejfifgdaa.LwB
open Go.RowKit Go.Proofs.Ytlogpbejfifgdaa.Base Go.Proofs.Ytlogpbejfifgdaa.St Go.Proofs.Ytlogpbejfifgdaa.StB Go.Proofs.Ytlogpbejfifgdaa.OpA Go.Proofs.Ytlogpbejfifgdaa.OpB Go.Proofs.Ytlogpbejfifgdaa.LgA Go.Proofs.Ytlogpbejfifgdaa.LgB Go.Proofs.Ytlogpbejfifgdaa.LgC Go.Proofs.Ytlogpbejfifgdaa.LgF Go.Proofs.Ytlogpbejfifgdaa.LgG Go.Proofs.Ytlogpbejfifgdaa.LgH Go.Proofs.Ytlogpbejfifgdaa.LgI Go.Proofs.Ytlogpbejfifgdaa.LgP Go.Proofs.Ytlogpbejfifgdaa.LgQ Go.Proofs.Ytlogpbejfifgdaa.LgR Go.Proofs.Ytlogpbejfifgdaa.LgS Go.Proofs.Ytlogpbejfifgdaa.LwA
set_option linter.unusedVariables false
attribute [local go_sem ↓] Go.wp_at_zero Go.wp_at_succ
attribute [local irreducible] Go.wpQuiet

theorem enW : ∀ (args : Array Value) (W : World), (callFunc 72 args).run Try.prog W = .ok (.enter 72 args) W := enters Try.func72 (by kernel_rfl) (by kernel_rfl)

set_option maxHeartbeats 2000000 in
theorem keepW (s t : Int) (o : OpV) (bx : Nat) (w : World) (h0 : w.cell? ⟨bx, 0, none⟩ = some (.int .i64 s)) (h1 : w.cell? ⟨bx, 1, none⟩ = some (.int .i64 t)) :
    Calls Try.prog 72 #[.agg #[.int .i64 o.i, .int .i64 o.j, .int .i64 o.k, .int .i64 o.ts, .int .i64 o.ta, .int .i64 o.fs, .int .i64 o.fa, .int .i64 o.ns, .int .i64 o.na, .int .i64 o.v, .bool o.en, .string o.tx], .pointer (some ⟨bx, 0, none⟩)] w fun e w' => e = .returned (.bool (kept s t o)) ∧ Below w.heap.size w w' := by
  have lb : bx < w.heap.size := World.block_lt_of_cell? w _ h0
  obtain ⟨q, hq⟩ : ∃ q, kept s t o = q := ⟨_, rfl⟩
  rw [hq]
  unfold kept gone at hq
  rcases (split9 (A := o.i = s) (B := o.j = t) (C := o.k = 10) (D := o.ts = s) (E := o.ta = t)) with ⟨a1, a3⟩ | ⟨a1, a3, a4⟩ | ⟨a1, a3, a4, a5⟩ | ⟨a1, a3, a4, a5⟩ | ⟨a1, a2, a3⟩ | ⟨a1, a2, a3, a4⟩ | ⟨a1, a2, a3, a4, a5⟩ | ⟨a1, a2, a3, a4, a5⟩ | ⟨a1, a2⟩
  · have hq2 : q = true := by rw [← hq]; simp [a1, a3]
    have g1 : (o.i == s) = false := by simp [a1]
    have g3 : (o.k == 10) = false := by simp [a3]
    have g3n : (o.k != 10) = true := by simp [a3]
    subst hq2
    clear hq a1 a3
    go_enter Try.func72, Try.ntmps72
    go_wp2
    go_ret
    exact ⟨rfl, (Below.refl _ _).alloc (Nat.le_refl _) _⟩
  · have hq2 : q = true := by rw [← hq]; simp [a1, a3, a4]
    have g1 : (o.i == s) = false := by simp [a1]
    have g3 : (o.k == 10) = true := by simp [a3]
    have g3n : (o.k != 10) = false := by simp [a3]
    have g4 : (o.ts == s) = false := by simp [a4]
    subst hq2
    clear hq a1 a3 a4
    go_enter Try.func72, Try.ntmps72
    go_wp2
    go_ret
    exact ⟨rfl, (Below.refl _ _).alloc (Nat.le_refl _) _⟩
  · have hq2 : q = true := by rw [← hq]; simp [a1, a3, a4, a5]
    have g1 : (o.i == s) = false := by simp [a1]
    have g3 : (o.k == 10) = true := by simp [a3]
    have g3n : (o.k != 10) = false := by simp [a3]
    have g4 : (o.ts == s) = true := by simp [a4]
    have g5 : (o.ta == t) = false := by simp [a5]
    subst hq2
    clear hq a1 a3 a4 a5
    go_enter Try.func72, Try.ntmps72
    go_wp2
    go_ret
    exact ⟨rfl, (Below.refl _ _).alloc (Nat.le_refl _) _⟩
  · have hq2 : q = false := by rw [← hq]; simp [a1, a3, a4, a5]
    have g1 : (o.i == s) = false := by simp [a1]
    have g3 : (o.k == 10) = true := by simp [a3]
    have g3n : (o.k != 10) = false := by simp [a3]
    have g4 : (o.ts == s) = true := by simp [a4]
    have g5 : (o.ta == t) = true := by simp [a5]
    subst hq2
    clear hq a1 a3 a4 a5
    go_enter Try.func72, Try.ntmps72
    go_wp2
    go_ret
    exact ⟨rfl, (Below.refl _ _).alloc (Nat.le_refl _) _⟩
  · have hq2 : q = true := by rw [← hq]; simp [a1, a2, a3]
    have g1 : (o.i == s) = true := by simp [a1]
    have g2 : (o.j == t) = false := by simp [a2]
    have g3 : (o.k == 10) = false := by simp [a3]
    have g3n : (o.k != 10) = true := by simp [a3]
    subst hq2
    clear hq a1 a2 a3
    go_enter Try.func72, Try.ntmps72
    go_wp2
    go_ret
    exact ⟨rfl, (Below.refl _ _).alloc (Nat.le_refl _) _⟩
  · have hq2 : q = true := by rw [← hq]; simp [a1, a2, a3, a4]
    have g1 : (o.i == s) = true := by simp [a1]
    have g2 : (o.j == t) = false := by simp [a2]
    have g3 : (o.k == 10) = true := by simp [a3]
    have g3n : (o.k != 10) = false := by simp [a3]
    have g4 : (o.ts == s) = false := by simp [a4]
    subst hq2
    clear hq a1 a2 a3 a4
    go_enter Try.func72, Try.ntmps72
    go_wp2
    go_ret
    exact ⟨rfl, (Below.refl _ _).alloc (Nat.le_refl _) _⟩
  · have hq2 : q = true := by rw [← hq]; simp [a1, a2, a3, a4, a5]
    have g1 : (o.i == s) = true := by simp [a1]
    have g2 : (o.j == t) = false := by simp [a2]
    have g3 : (o.k == 10) = true := by simp [a3]
    have g3n : (o.k != 10) = false := by simp [a3]
    have g4 : (o.ts == s) = true := by simp [a4]
    have g5 : (o.ta == t) = false := by simp [a5]
    subst hq2
    clear hq a1 a2 a3 a4 a5
    go_enter Try.func72, Try.ntmps72
    go_wp2
    go_ret
    exact ⟨rfl, (Below.refl _ _).alloc (Nat.le_refl _) _⟩
  · have hq2 : q = false := by rw [← hq]; simp [a1, a2, a3, a4, a5]
    have g1 : (o.i == s) = true := by simp [a1]
    have g2 : (o.j == t) = false := by simp [a2]
    have g3 : (o.k == 10) = true := by simp [a3]
    have g3n : (o.k != 10) = false := by simp [a3]
    have g4 : (o.ts == s) = true := by simp [a4]
    have g5 : (o.ta == t) = true := by simp [a5]
    subst hq2
    clear hq a1 a2 a3 a4 a5
    go_enter Try.func72, Try.ntmps72
    go_wp2
    go_ret
    exact ⟨rfl, (Below.refl _ _).alloc (Nat.le_refl _) _⟩
  · have hq2 : q = false := by rw [← hq]; simp [a1, a2]
    have g1 : (o.i == s) = true := by simp [a1]
    have g2 : (o.j == t) = true := by simp [a2]
    subst hq2
    clear hq a1 a2
    go_enter Try.func72, Try.ntmps72
    go_wp2
    go_ret
    exact ⟨rfl, (Below.refl _ _).alloc (Nat.le_refl _) _⟩

set_option maxRecDepth 100000 in
set_option maxHeartbeats 1000000 in
theorem impl_LogWithout (a : Option Addr) (c : Nat) (os : List OpV) (s t : Int) (w : World) (hr : RdO w a os) (hl : os.length ≤ 1048576) (ht : ∀ k, k < os.length → (os.getD k zop).tx.size ≤ maxLen) :
    Calls Try.prog 26 #[.slice a os.length c, .agg #[.int .i64 s, .int .i64 t]] w (GivesO w (lwo os s t)) := by
  have HV := Lib.hid (fun W (h : Below w.heap.size w W) => impl_ValidLog ivop a c os W (hr.below h) hl ht)
  have HR := Lib.hid hr
  have hx : lwo os s t = if vlog os then keepTo (kept s t) os os.length else [] := rfl
  rw [hx]
  obtain ⟨p, hp⟩ : ∃ p, vlog os = p := ⟨_, rfl⟩
  rw [hp] at HV
  rw [hp]
  have HP := Lib.hid hp
  have HB1 := Lib.hid (show Below w.heap.size w (w.alloc (.cells #[.int .i64 s, .int .i64 t] 25)) from (Below.refl _ _).alloc (Nat.le_refl _) _)
  clear hr ht hx hp
  cases p
  · go_enter Try.func26, Try.ntmps26
    go_wp2_with fail
    refine (HV.out _ HB1.out).mono ?_
    rintro e w2 ⟨rfl, hb2⟩
    go_wp2
    go_ret
    exact GivesO.from (HB1.out.trans (hb2.mono HB1.out.size)) (givesO_nil _)
  · have HC0 := Lib.hid (by simp [go_sem] : (w.alloc (.cells #[.int .i64 s, .int .i64 t] 25)).cell? ⟨w.heap.size, 0, none⟩ = some (.int .i64 s))
    have HC1 := Lib.hid (by simp [go_sem] : (w.alloc (.cells #[.int .i64 s, .int .i64 t] 25)).cell? ⟨w.heap.size, 1, none⟩ = some (.int .i64 t))
    have HZ2 := Lib.hid (by simp : w.heap.size < (w.alloc (.cells #[.int .i64 s, .int .i64 t] 25)).heap.size)
    go_enter Try.func26, Try.ntmps26
    go_wp2_with fail
    refine (HV.out _ HB1.out).mono ?_
    rintro e w2 ⟨rfl, hb2⟩
    have hB2 := HB1.out.trans (hb2.mono HB1.out.size)
    have hz3 := hb2.size
    go_wp2_with fail
    refine (opSet _ _ _ _).mono ?_
    rintro e w3 ⟨rfl, hb3⟩
    have hB3 := hB2.trans (hb3.mono hB2.size)
    have hz4 := hb3.size
    have hz5 : w.heap.size < w2.heap.size := Nat.lt_of_lt_of_le HZ2.out hz3
    go_wp2_with fail
    refine (filter 72 ⟨w.heap.size, 0, none⟩ (kept s t) a c os w3 (HR.out.below hB3) hl (allTo_of HP.out) enW (fun o W hW hst => ?_)).mono ?_
    · have cc : ∀ i v, (w.alloc (.cells #[.int .i64 s, .int .i64 t] 25)).cell? ⟨w.heap.size, i, none⟩ = some v → W.cell? ⟨w.heap.size, i, none⟩ = some v := fun i v h =>
        (hW.cell (p := ⟨w.heap.size, i, none⟩) (by show w.heap.size < _; omega)).trans ((hb3.cell (p := ⟨w.heap.size, i, none⟩) hz5).trans ((hb2.cell (p := ⟨w.heap.size, i, none⟩) HZ2.out).trans h))
      exact keepW s t o w.heap.size W (cc 0 _ HC0.out) (cc 1 _ HC1.out)
    · rintro e w4 ⟨v, rfl, hown, hb4⟩
      have hB4 := hB3.trans (hb4.mono hB3.size)
      obtain ⟨av, cv', rfl, _⟩ := ownedO hown
      have hfd := field0 av (keepTo (kept s t) os os.length).length cv' (.func (.func 108) #[] #[])
      go_wp2
      go_ret
      exact (OwnsO.lower hown hB3.size).gives hB4

end Go.Proofs.Ytlogpbejfifgdaa.LwB
