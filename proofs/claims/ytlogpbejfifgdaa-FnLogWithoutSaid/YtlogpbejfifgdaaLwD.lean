/-
  The walk of the law FnLogWithout: it returns true, whatever the bytes. No condition.
-/
import Derived.Test.YtlogpbejfifgdaaLdA
import Derived.Test.YtlogpbejfifgdaaLwB
import Derived.Test.YtlogpbejfifgdaaLwE
import Derived.Test.YtlogpbejfifgdaaMoB
import Derived.Test.YtlogpbejfifgdaaMoC
import Derived.Test.YtlogpbejfifgdaaK2
import Derived.Outline
namespace Go.Proofs.Ytlogpbejfifgdaa.LwD
open Go.RowKit Go.Proofs.Ytlogpbejfifgdaa.Base Go.Proofs.Ytlogpbejfifgdaa.St Go.Proofs.Ytlogpbejfifgdaa.StB Go.Proofs.Ytlogpbejfifgdaa.OpA Go.Proofs.Ytlogpbejfifgdaa.OpB Go.Proofs.Ytlogpbejfifgdaa.LgA Go.Proofs.Ytlogpbejfifgdaa.LgB Go.Proofs.Ytlogpbejfifgdaa.LgC Go.Proofs.Ytlogpbejfifgdaa.LgF Go.Proofs.Ytlogpbejfifgdaa.LgH Go.Proofs.Ytlogpbejfifgdaa.LgI Go.Proofs.Ytlogpbejfifgdaa.LgP Go.Proofs.Ytlogpbejfifgdaa.RdA Go.Proofs.Ytlogpbejfifgdaa.RdB Go.Proofs.Ytlogpbejfifgdaa.RdC Go.Proofs.Ytlogpbejfifgdaa.RdD Go.Proofs.Ytlogpbejfifgdaa.LdA Go.Proofs.Ytlogpbejfifgdaa.LwA Go.Proofs.Ytlogpbejfifgdaa.LwB Go.Proofs.Ytlogpbejfifgdaa.LwE Go.Proofs.Ytlogpbejfifgdaa.MoA Go.Proofs.Ytlogpbejfifgdaa.MoB Go.Proofs.Ytlogpbejfifgdaa.MoC
set_option linter.unusedVariables false
attribute [local go_sem ↓] Go.wp_at_zero Go.wp_at_succ
attribute [local irreducible] Go.wpQuiet

theorem lwo_ok {os : List OpV} {s t : Int} (h : vlog os = true) : lwo os s t = os.filter (kept s t) := by rw [lwo, if_pos h, keepTo_all]
theorem lwo_len (os : List OpV) (s t : Int) : (lwo os s t).length ≤ os.length := by
  unfold lwo
  split
  · exact keepTo_len _ _ _
  · simp
theorem lwo_short {os : List OpV} {s t : Int} {N : Nat} (h : ∀ k, k < os.length → (os.getD k zop).tx.size ≤ N) : ∀ k, k < (lwo os s t).length → ((lwo os s t).getD k zop).tx.size ≤ N := by
  intro k hk
  unfold lwo at hk ⊢
  split at hk
  next hv =>
    rw [keepTo_all] at hk
    rw [if_pos hv, keepTo_all]
    obtain ⟨j, hj, e⟩ := mem_getD (List.mem_filter.1 (getD_mem hk)).1
    rw [← e]
    exact h j hj
  next => exact absurd hk (by simp)

set_option maxRecDepth 100000 in
set_option maxHeartbeats 8000000 in
theorem walk (a0 : Option Addr) (len0 cap0 : Nat) (z0 : List Int) (w : World) (r0 : IsRow .u8 w a0 len0 cap0 z0) :
    Calls Try.prog 5 #[.slice a0 len0 cap0] w fun e w' => e = .returned (.bool true) ∧ Below w.heap.size w w' := by
  obtain ⟨xs, rfl, hx, rx⟩ := bytes_rd r0
  clear r0
  by_cases l0 : (1048576 : Int) < (xs.length : Int)
  · clear rx
    go_enter Try.func5, Try.ntmps5
    go_wp2
    go_ret
    exact ⟨rfl, Below.refl _ _⟩
  have HD := Lib.hid (drawWithout a0 cap0 xs w rx hx)
  clear rx hx
  go_enter Try.func5, Try.ntmps5
  go_wp2_with fail
  refine HD.out.mono ?_
  rintro e w1 ⟨⟨A, c, os, s, t, rfl, hrow, hlen, ht⟩, b1⟩
  have hz1 := b1.size
  have htm : ∀ k, k < os.length → (os.getD k zop).tx.size ≤ maxLen := fun k hk => by have := ht k hk; unfold maxLen; omega
  have hLl := lwo_len os s t
  have hI := fun W (hb : Below w1.heap.size w1 W) => impl_LogWithout A c os s t W (hrow.rd.below hb) (by omega) htm
  have hS := fun W (hb : Below w1.heap.size w1 W) => spec_LogWithout A c os s t W (hrow.rd.below hb) (by omega) htm
  have hV := fun W (hb : Below w1.heap.size w1 W) => impl_ValidLog ivop A c os W (hrow.rd.below hb) (by omega) htm
  have hVL := fun a c W (h : RdO W a (lwo os s t)) => impl_ValidLog ivop a c (lwo os s t) W h (by omega) (lwo_short htm)
  have hEL := fun a2 c2 a3 c3 W (h : RdO W a2 (lwo os s t)) (h' : RdO W a3 (lwo os s t)) => equalLogs a2 a3 c2 c3 (lwo os s t) W h h' (by omega)
  have hFi := fun a c i j W (h : RdO W a (lwo os s t)) => findOp a c (lwo os s t) i j W h (by omega)
  obtain ⟨ok, hok⟩ : ∃ ok, vlog os = ok := ⟨_, rfl⟩
  rw [hok] at hV
  have HLV := Lib.hid (fun (h : ok = true) => (by rw [lwo_ok (by rw [hok]; exact h)]; exact vlog_filter _ (by rw [hok]; exact h) : vlog (lwo os s t) = true))
  have HLF := Lib.hid (fun (h : ok = true) (i : Nat) (hi : i < os.length) => (by rw [lwo_ok (by rw [hok]; exact h)]; exact left_iff (kept s t) (by rw [hok]; exact h) hi : (∃ m, m < (lwo os s t).length ∧ ((lwo os s t).getD m zop).i = (os.getD i zop).i ∧ ((lwo os s t).getD m zop).j = (os.getD i zop).j) ↔ kept s t (os.getD i zop) = true))
  have HLC := Lib.hid (fun (h : ok = true) => (by rw [lwo_ok (by rw [hok]; exact h)]; exact cnt_all _ _ : cnt (kept s t) os os.length = (lwo os s t).length))
  have HRow := Lib.hid hrow.rd
  have HB1 := Lib.hid b1
  obtain ⟨L, hL⟩ : ∃ L, L = lwo os s t := ⟨_, rfl⟩
  rw [← hL] at hLl hI hS hVL hEL hFi HLV HLF HLC
  have HI := Lib.hid hI
  have HS := Lib.hid hS
  have HV := Lib.hid hV
  have HVL := Lib.hid hVL
  have HEL := Lib.hid hEL
  have HFi := Lib.hid hFi
  clear hI hS hV hVL hEL hFi hL hok hrow ht htm HD l0 b1
  obtain ⟨w2, hw2⟩ : ∃ w2, w2 = w1.alloc (.cells #[.int .i64 s, .int .i64 t] 25) := ⟨_, rfl⟩
  have b2 : Below w1.heap.size w1 w2 := by rw [hw2]; exact (Below.refl _ _).alloc (Nat.le_refl _) _
  have hn2 : w1.heap.size < w2.heap.size := by rw [hw2]; simp
  have e0 : w2.cell? ⟨w1.heap.size, 0, none⟩ = some (.int .i64 s) := by rw [hw2]; simp [go_sem]
  have e1 : w2.cell? ⟨w1.heap.size, 1, none⟩ = some (.int .i64 t) := by rw [hw2]; simp [go_sem]
  have HX0 := Lib.hid (fun W (hW : Below w2.heap.size w2 W) => ((hW.cell (p := ⟨w1.heap.size, 0, none⟩) hn2).trans e0 : W.cell? ⟨w1.heap.size, 0, none⟩ = some (.int .i64 s)))
  have HX1 := Lib.hid (fun W (hW : Below w2.heap.size w2 W) => ((hW.cell (p := ⟨w1.heap.size, 1, none⟩) hn2).trans e1 : W.cell? ⟨w1.heap.size, 1, none⟩ = some (.int .i64 t)))
  have HB2 := Lib.hid b2
  have HW2 := Lib.hid hw2
  have h12 : w1.heap.size ≤ w2.heap.size := by omega
  clear b2 hw2 e0 e1
  go_wp2_with fail
  rw [← HW2.out]
  refine (HI.out _ HB2.out).mono ?_
  rintro e w3 ⟨a3, c3, rfl, row3, b3⟩
  have HR3 := Lib.hid row3.rd
  have HB3 := Lib.hid b3
  have hz3 := b3.size
  have x0 := HX0.out w3 b3
  have x1 := HX1.out w3 b3
  clear row3 b3 HI
  go_wp2_with fail
  refine (HS.out _ (HB2.out.trans (HB3.out.mono h12))).mono ?_
  rintro e w4 ⟨a4, c4, rfl, row4, b4⟩
  clear x0 x1
  have HR4 := Lib.hid row4.rd
  have HR34 := Lib.hid (HR3.out.below b4)
  have HB4 := Lib.hid (HB3.out.trans (b4.mono hz3))
  have hz4 := HB4.out.size
  clear row4 b4 HB3 HR3
  go_wp2_with fail
  refine (HEL.out _ _ _ _ _ HR34.out HR4.out).mono ?_
  rintro e w5 ⟨rfl, b5⟩
  have HR5 := Lib.hid (HR34.out.below b5)
  have HB5 := Lib.hid (HB4.out.trans (b5.mono hz4))
  have hz5 := HB5.out.size
  clear b5 HB4 HR34 HR4
  go_wp2_with fail
  refine (HV.out _ (HB2.out.trans (HB5.out.mono h12))).mono ?_
  rintro e w6 ⟨rfl, b6⟩
  have HR6 := Lib.hid (HR5.out.below b6)
  have HB6 := Lib.hid (HB5.out.trans (b6.mono hz5))
  have hz6 := HB6.out.size
  clear b6 HB5 HR5 HV
  cases ok
  · have x0 := HX0.out w6 HB6.out
    have x1 := HX1.out w6 HB6.out
    go_wp2_with fail
    refine (HS.out _ (HB2.out.trans (HB6.out.mono h12))).mono ?_
    rintro e w7 ⟨a7, c7, rfl, row7, b7⟩
    clear x0 x1
    have HR7 := Lib.hid row7.rd
    have HR67 := Lib.hid (HR6.out.below b7)
    have HB7 := Lib.hid (HB6.out.trans (b7.mono hz6))
    have hz7 := HB7.out.size
    clear row7 b7
    go_wp2_with fail
    refine (HEL.out _ _ _ _ _ HR67.out HR7.out).mono ?_
    rintro e w8 ⟨rfl, b8⟩
    have HB8 := Lib.hid (HB7.out.trans (b8.mono hz7))
    go_wp2
    go_ret
    exact ⟨rfl, HB1.out.trans ((HB2.out.trans (HB8.out.mono h12)).mono hz1)⟩
  · have HLF2 := Lib.hid (HLF.out (by first | rfl | trivial))
    have HLC2 := Lib.hid (HLC.out (by first | rfl | trivial))
    have HLV2 := Lib.hid (HLV.out (by first | rfl | trivial))
    clear HLF HLC HLV HS HEL
    go_wp2
    go_loopw [6, 7] (fun nn i wr => ∃ (k : Nat) (z : Int), k ≤ os.length ∧ i = .int .i64 k ∧ nn = .int .i64 z ∧ Hid (z = (cnt (kept s t) os k : Int)) ∧ Below w6.heap.size w6 wr) (fun _ i _ => os.length - (intOf i).toNat)
    case atStart => exact ⟨0, 0, Nat.zero_le _, rfl, rfl, (by rw [cnt_zero]; rfl : (0 : Int) = (cnt (kept s t) os 0 : Int)), Below.refl _ _⟩
    case round =>
      obtain ⟨k, z, hk, rfl, rfl, hzc, hnx⟩ := hrel
      have hcl := cnt_le (kept s t) os k
      have hz0 : 0 ≤ z ∧ z ≤ 29 := by have := hzc.out; omega
      clear hcl
      have HB7 := Lib.hid (HB6.out.trans (hnx.mono hz6))
      have hz7 := HB7.out.size
      have HR7 := Lib.hid (HR6.out.below hnx)
      have HNX := Lib.hid hnx
      have hzn := hnx.size
      by_cases hlt : k < os.length
      · rcases HRow.out with h0 | ⟨b, off, rfl, hc⟩
        · rw [h0] at hlt; exact absurd hlt (by simp)
        obtain ⟨o, ho⟩ : ∃ o, o = os.getD k zop := ⟨_, rfl⟩
        have HRQ := Lib.hid (by rw [ho]; exact rangeAt_below (hc k hlt) (HB2.out.trans (HB7.out.mono h12)) (rangeAt_lt (hc k hlt)) : wr.rangeAt b (off + k * 12) (opL o))
        have HY0 := Lib.hid (fun W (hW : Below wr.heap.size wr W) => HX0.out W (HB7.out.trans (hW.mono hz7)))
        have HY1 := Lib.hid (fun W (hW : Below wr.heap.size wr W) => HX1.out W (HB7.out.trans (hW.mono hz7)))
        have hlf := HLF2.out k hlt
        rw [← ho] at hlf
        have HLf := Lib.hid hlf
        obtain ⟨q, hq⟩ : ∃ q, kept s t o = q := ⟨_, rfl⟩
        have HQ := Lib.hid hq
        have HQo := Lib.hid (by rw [← ho]; exact hq : kept s t (os.getD k zop) = q)
        unfold kept gone at hq
        clear ho hc hlf hnx
        have hk0 : (0 : Int) ≤ (k : Int) := Int.natCast_nonneg _
        have hk1 : (k : Int) < (os.length : Int) := by omega
        rcases (split9 (A := o.i = s) (B := o.j = t) (C := o.k = 10) (D := o.ts = s) (E := o.ta = t)) with ⟨a1, a3⟩ | ⟨a1, a3, a4⟩ | ⟨a1, a3, a4, a5⟩ | ⟨a1, a3, a4, a5⟩ | ⟨a1, a2, a3⟩ | ⟨a1, a2, a3, a4⟩ | ⟨a1, a2, a3, a4, a5⟩ | ⟨a1, a2, a3, a4, a5⟩ | ⟨a1, a2⟩
        · have hq2 : q = true := by rw [← hq]; simp [a1, a3]
          have g1 : (o.i == s) = false := by simp [a1]
          have g3 : (o.k == 10) = false := by simp [a3]
          have g3n : (o.k != 10) = true := by simp [a3]
          subst hq2
          clear hq a1 a3
          go_wp2
          refine region_lit (C := fun W => Below wr.heap.size wr W) (by kernel_rfl) (by kernel_rfl) (Below.refl _ _).drew ?_
          repeat (
            first
              | (refine wpQuiet_step (fun K hK => ?_)
                 go_simp
                 first
                   | (refine hK _ ?_; clear hK K)
                   | (apply Exists.intro
                      refine ⟨fun W hW => ?_, hK _ ?_⟩
                      · have x0 := HY0.out W hW
                        have x1 := HY1.out W hW
                        obtain ⟨q0, q1, q2, q3, q4, q5, q6, q7, q8, q9, q10, q11⟩ := c12 (rangeAt_below HRQ.out hW (rangeAt_lt HRQ.out))
                        first
                          | (go_simp; exact rfl)
                          | (go_simp; exact ⟨rfl, rfl⟩)
                      clear hK K)))
          refine wpQuiet_nil ?_
          intro W1 hW1
          have HW1 := Lib.hid (HNX.out.trans (hW1.mono hzn))
          have hzW := HW1.out.size
          have HRL := Lib.hid (HR7.out.below hW1)
          obtain ⟨q0, q1, q2, q3, q4, q5, q6, q7, q8, q9, q10, q11⟩ := c12 (rangeAt_below HRQ.out hW1 (rangeAt_lt HRQ.out))
          clear hW1 g1 g3 g3n
          go_wp2_with fail
          refine (HFi.out _ _ _ _ _ HRL.out).mono ?_
          rintro e w9 ⟨⟨j, rfl, hj, hji, hjj⟩ | ⟨rfl, hno⟩, b9⟩
          · have hj0 : (0 : Int) ≤ (j : Int) := Int.natCast_nonneg _
            have HC := Lib.hid (cnt_yes hlt HQo.out)
            clear hj hji hjj q0 q1 q2 q3 q4 q5 q6 q7 q8 q9 q10 q11
            go_wp2
            go_roundw
            case rel => exact ⟨k + 1, z + 1, by omega, by go_num, by go_num, (by rw [HC.out]; have := hzc.out; omega : z + 1 = (cnt (kept s t) os (k + 1) : Int)), HW1.out.trans (b9.mono hzW)⟩
            case measure => simp [intOf]; omega
          · obtain ⟨m, hm, e1, e2⟩ := HLf.out.2 HQ.out
            exact absurd ⟨e1, e2⟩ (hno m hm)
        · have hq2 : q = true := by rw [← hq]; simp [a1, a3, a4]
          have g1 : (o.i == s) = false := by simp [a1]
          have g3 : (o.k == 10) = true := by simp [a3]
          have g3n : (o.k != 10) = false := by simp [a3]
          have g4 : (o.ts == s) = false := by simp [a4]
          subst hq2
          clear hq a1 a3 a4
          go_wp2
          refine region_lit (C := fun W => Below wr.heap.size wr W) (by kernel_rfl) (by kernel_rfl) (Below.refl _ _).drew ?_
          repeat (
            first
              | (refine wpQuiet_step (fun K hK => ?_)
                 go_simp
                 first
                   | (refine hK _ ?_; clear hK K)
                   | (apply Exists.intro
                      refine ⟨fun W hW => ?_, hK _ ?_⟩
                      · have x0 := HY0.out W hW
                        have x1 := HY1.out W hW
                        obtain ⟨q0, q1, q2, q3, q4, q5, q6, q7, q8, q9, q10, q11⟩ := c12 (rangeAt_below HRQ.out hW (rangeAt_lt HRQ.out))
                        first
                          | (go_simp; exact rfl)
                          | (go_simp; exact ⟨rfl, rfl⟩)
                      clear hK K)))
          refine wpQuiet_nil ?_
          intro W1 hW1
          have HW1 := Lib.hid (HNX.out.trans (hW1.mono hzn))
          have hzW := HW1.out.size
          have HRL := Lib.hid (HR7.out.below hW1)
          obtain ⟨q0, q1, q2, q3, q4, q5, q6, q7, q8, q9, q10, q11⟩ := c12 (rangeAt_below HRQ.out hW1 (rangeAt_lt HRQ.out))
          clear hW1 g1 g3 g4 g3n
          go_wp2_with fail
          refine (HFi.out _ _ _ _ _ HRL.out).mono ?_
          rintro e w9 ⟨⟨j, rfl, hj, hji, hjj⟩ | ⟨rfl, hno⟩, b9⟩
          · have hj0 : (0 : Int) ≤ (j : Int) := Int.natCast_nonneg _
            have HC := Lib.hid (cnt_yes hlt HQo.out)
            clear hj hji hjj q0 q1 q2 q3 q4 q5 q6 q7 q8 q9 q10 q11
            go_wp2
            go_roundw
            case rel => exact ⟨k + 1, z + 1, by omega, by go_num, by go_num, (by rw [HC.out]; have := hzc.out; omega : z + 1 = (cnt (kept s t) os (k + 1) : Int)), HW1.out.trans (b9.mono hzW)⟩
            case measure => simp [intOf]; omega
          · obtain ⟨m, hm, e1, e2⟩ := HLf.out.2 HQ.out
            exact absurd ⟨e1, e2⟩ (hno m hm)
        · have hq2 : q = true := by rw [← hq]; simp [a1, a3, a4, a5]
          have g1 : (o.i == s) = false := by simp [a1]
          have g3 : (o.k == 10) = true := by simp [a3]
          have g3n : (o.k != 10) = false := by simp [a3]
          have g4 : (o.ts == s) = true := by simp [a4]
          have g5 : (o.ta == t) = false := by simp [a5]
          subst hq2
          clear hq a1 a3 a4 a5
          go_wp2
          refine region_lit (C := fun W => Below wr.heap.size wr W) (by kernel_rfl) (by kernel_rfl) (Below.refl _ _).drew ?_
          repeat (
            first
              | (refine wpQuiet_step (fun K hK => ?_)
                 go_simp
                 first
                   | (refine hK _ ?_; clear hK K)
                   | (apply Exists.intro
                      refine ⟨fun W hW => ?_, hK _ ?_⟩
                      · have x0 := HY0.out W hW
                        have x1 := HY1.out W hW
                        obtain ⟨q0, q1, q2, q3, q4, q5, q6, q7, q8, q9, q10, q11⟩ := c12 (rangeAt_below HRQ.out hW (rangeAt_lt HRQ.out))
                        first
                          | (go_simp; exact rfl)
                          | (go_simp; exact ⟨rfl, rfl⟩)
                      clear hK K)))
          refine wpQuiet_nil ?_
          intro W1 hW1
          have HW1 := Lib.hid (HNX.out.trans (hW1.mono hzn))
          have hzW := HW1.out.size
          have HRL := Lib.hid (HR7.out.below hW1)
          obtain ⟨q0, q1, q2, q3, q4, q5, q6, q7, q8, q9, q10, q11⟩ := c12 (rangeAt_below HRQ.out hW1 (rangeAt_lt HRQ.out))
          clear hW1 g1 g3 g4 g5 g3n
          go_wp2_with fail
          refine (HFi.out _ _ _ _ _ HRL.out).mono ?_
          rintro e w9 ⟨⟨j, rfl, hj, hji, hjj⟩ | ⟨rfl, hno⟩, b9⟩
          · have hj0 : (0 : Int) ≤ (j : Int) := Int.natCast_nonneg _
            have HC := Lib.hid (cnt_yes hlt HQo.out)
            clear hj hji hjj q0 q1 q2 q3 q4 q5 q6 q7 q8 q9 q10 q11
            go_wp2
            go_roundw
            case rel => exact ⟨k + 1, z + 1, by omega, by go_num, by go_num, (by rw [HC.out]; have := hzc.out; omega : z + 1 = (cnt (kept s t) os (k + 1) : Int)), HW1.out.trans (b9.mono hzW)⟩
            case measure => simp [intOf]; omega
          · obtain ⟨m, hm, e1, e2⟩ := HLf.out.2 HQ.out
            exact absurd ⟨e1, e2⟩ (hno m hm)
        · have hq2 : q = false := by rw [← hq]; simp [a1, a3, a4, a5]
          have g1 : (o.i == s) = false := by simp [a1]
          have g3 : (o.k == 10) = true := by simp [a3]
          have g3n : (o.k != 10) = false := by simp [a3]
          have g4 : (o.ts == s) = true := by simp [a4]
          have g5 : (o.ta == t) = true := by simp [a5]
          subst hq2
          clear hq a1 a3 a4 a5
          go_wp2
          refine region_lit (C := fun W => Below wr.heap.size wr W) (by kernel_rfl) (by kernel_rfl) (Below.refl _ _).drew ?_
          repeat (
            first
              | (refine wpQuiet_step (fun K hK => ?_)
                 go_simp
                 first
                   | (refine hK _ ?_; clear hK K)
                   | (apply Exists.intro
                      refine ⟨fun W hW => ?_, hK _ ?_⟩
                      · have x0 := HY0.out W hW
                        have x1 := HY1.out W hW
                        obtain ⟨q0, q1, q2, q3, q4, q5, q6, q7, q8, q9, q10, q11⟩ := c12 (rangeAt_below HRQ.out hW (rangeAt_lt HRQ.out))
                        first
                          | (go_simp; exact rfl)
                          | (go_simp; exact ⟨rfl, rfl⟩)
                      clear hK K)))
          refine wpQuiet_nil ?_
          intro W1 hW1
          have HW1 := Lib.hid (HNX.out.trans (hW1.mono hzn))
          have hzW := HW1.out.size
          have HRL := Lib.hid (HR7.out.below hW1)
          obtain ⟨q0, q1, q2, q3, q4, q5, q6, q7, q8, q9, q10, q11⟩ := c12 (rangeAt_below HRQ.out hW1 (rangeAt_lt HRQ.out))
          clear hW1 g1 g3 g4 g5 g3n
          go_wp2_with fail
          refine (HFi.out _ _ _ _ _ HRL.out).mono ?_
          rintro e w9 ⟨⟨j, rfl, hj, hji, hjj⟩ | ⟨rfl, hno⟩, b9⟩
          · have := HLf.out.1 ⟨j, hj, hji, hjj⟩
            rw [HQ.out] at this
            cases this
          · have HC := Lib.hid (cnt_no hlt HQo.out)
            clear hno q0 q1 q2 q3 q4 q5 q6 q7 q8 q9 q10 q11
            go_wp2
            go_roundw
            case rel => exact ⟨k + 1, z, by omega, by go_num, rfl, (by rw [HC.out]; exact hzc.out : z = (cnt (kept s t) os (k + 1) : Int)), HW1.out.trans (b9.mono hzW)⟩
            case measure => simp [intOf]; omega
        · have hq2 : q = true := by rw [← hq]; simp [a1, a2, a3]
          have g1 : (o.i == s) = true := by simp [a1]
          have g2 : (o.j == t) = false := by simp [a2]
          have g3 : (o.k == 10) = false := by simp [a3]
          have g3n : (o.k != 10) = true := by simp [a3]
          subst hq2
          clear hq a1 a2 a3
          go_wp2
          refine region_lit (C := fun W => Below wr.heap.size wr W) (by kernel_rfl) (by kernel_rfl) (Below.refl _ _).drew ?_
          repeat (
            first
              | (refine wpQuiet_step (fun K hK => ?_)
                 go_simp
                 first
                   | (refine hK _ ?_; clear hK K)
                   | (apply Exists.intro
                      refine ⟨fun W hW => ?_, hK _ ?_⟩
                      · have x0 := HY0.out W hW
                        have x1 := HY1.out W hW
                        obtain ⟨q0, q1, q2, q3, q4, q5, q6, q7, q8, q9, q10, q11⟩ := c12 (rangeAt_below HRQ.out hW (rangeAt_lt HRQ.out))
                        first
                          | (go_simp; exact rfl)
                          | (go_simp; exact ⟨rfl, rfl⟩)
                      clear hK K)))
          refine wpQuiet_nil ?_
          intro W1 hW1
          have HW1 := Lib.hid (HNX.out.trans (hW1.mono hzn))
          have hzW := HW1.out.size
          have HRL := Lib.hid (HR7.out.below hW1)
          obtain ⟨q0, q1, q2, q3, q4, q5, q6, q7, q8, q9, q10, q11⟩ := c12 (rangeAt_below HRQ.out hW1 (rangeAt_lt HRQ.out))
          clear hW1 g1 g2 g3 g3n
          go_wp2_with fail
          refine (HFi.out _ _ _ _ _ HRL.out).mono ?_
          rintro e w9 ⟨⟨j, rfl, hj, hji, hjj⟩ | ⟨rfl, hno⟩, b9⟩
          · have hj0 : (0 : Int) ≤ (j : Int) := Int.natCast_nonneg _
            have HC := Lib.hid (cnt_yes hlt HQo.out)
            clear hj hji hjj q0 q1 q2 q3 q4 q5 q6 q7 q8 q9 q10 q11
            go_wp2
            go_roundw
            case rel => exact ⟨k + 1, z + 1, by omega, by go_num, by go_num, (by rw [HC.out]; have := hzc.out; omega : z + 1 = (cnt (kept s t) os (k + 1) : Int)), HW1.out.trans (b9.mono hzW)⟩
            case measure => simp [intOf]; omega
          · obtain ⟨m, hm, e1, e2⟩ := HLf.out.2 HQ.out
            exact absurd ⟨e1, e2⟩ (hno m hm)
        · have hq2 : q = true := by rw [← hq]; simp [a1, a2, a3, a4]
          have g1 : (o.i == s) = true := by simp [a1]
          have g2 : (o.j == t) = false := by simp [a2]
          have g3 : (o.k == 10) = true := by simp [a3]
          have g3n : (o.k != 10) = false := by simp [a3]
          have g4 : (o.ts == s) = false := by simp [a4]
          subst hq2
          clear hq a1 a2 a3 a4
          go_wp2
          refine region_lit (C := fun W => Below wr.heap.size wr W) (by kernel_rfl) (by kernel_rfl) (Below.refl _ _).drew ?_
          repeat (
            first
              | (refine wpQuiet_step (fun K hK => ?_)
                 go_simp
                 first
                   | (refine hK _ ?_; clear hK K)
                   | (apply Exists.intro
                      refine ⟨fun W hW => ?_, hK _ ?_⟩
                      · have x0 := HY0.out W hW
                        have x1 := HY1.out W hW
                        obtain ⟨q0, q1, q2, q3, q4, q5, q6, q7, q8, q9, q10, q11⟩ := c12 (rangeAt_below HRQ.out hW (rangeAt_lt HRQ.out))
                        first
                          | (go_simp; exact rfl)
                          | (go_simp; exact ⟨rfl, rfl⟩)
                      clear hK K)))
          refine wpQuiet_nil ?_
          intro W1 hW1
          have HW1 := Lib.hid (HNX.out.trans (hW1.mono hzn))
          have hzW := HW1.out.size
          have HRL := Lib.hid (HR7.out.below hW1)
          obtain ⟨q0, q1, q2, q3, q4, q5, q6, q7, q8, q9, q10, q11⟩ := c12 (rangeAt_below HRQ.out hW1 (rangeAt_lt HRQ.out))
          clear hW1 g1 g2 g3 g4 g3n
          go_wp2_with fail
          refine (HFi.out _ _ _ _ _ HRL.out).mono ?_
          rintro e w9 ⟨⟨j, rfl, hj, hji, hjj⟩ | ⟨rfl, hno⟩, b9⟩
          · have hj0 : (0 : Int) ≤ (j : Int) := Int.natCast_nonneg _
            have HC := Lib.hid (cnt_yes hlt HQo.out)
            clear hj hji hjj q0 q1 q2 q3 q4 q5 q6 q7 q8 q9 q10 q11
            go_wp2
            go_roundw
            case rel => exact ⟨k + 1, z + 1, by omega, by go_num, by go_num, (by rw [HC.out]; have := hzc.out; omega : z + 1 = (cnt (kept s t) os (k + 1) : Int)), HW1.out.trans (b9.mono hzW)⟩
            case measure => simp [intOf]; omega
          · obtain ⟨m, hm, e1, e2⟩ := HLf.out.2 HQ.out
            exact absurd ⟨e1, e2⟩ (hno m hm)
        · have hq2 : q = true := by rw [← hq]; simp [a1, a2, a3, a4, a5]
          have g1 : (o.i == s) = true := by simp [a1]
          have g2 : (o.j == t) = false := by simp [a2]
          have g3 : (o.k == 10) = true := by simp [a3]
          have g3n : (o.k != 10) = false := by simp [a3]
          have g4 : (o.ts == s) = true := by simp [a4]
          have g5 : (o.ta == t) = false := by simp [a5]
          subst hq2
          clear hq a1 a2 a3 a4 a5
          go_wp2
          refine region_lit (C := fun W => Below wr.heap.size wr W) (by kernel_rfl) (by kernel_rfl) (Below.refl _ _).drew ?_
          repeat (
            first
              | (refine wpQuiet_step (fun K hK => ?_)
                 go_simp
                 first
                   | (refine hK _ ?_; clear hK K)
                   | (apply Exists.intro
                      refine ⟨fun W hW => ?_, hK _ ?_⟩
                      · have x0 := HY0.out W hW
                        have x1 := HY1.out W hW
                        obtain ⟨q0, q1, q2, q3, q4, q5, q6, q7, q8, q9, q10, q11⟩ := c12 (rangeAt_below HRQ.out hW (rangeAt_lt HRQ.out))
                        first
                          | (go_simp; exact rfl)
                          | (go_simp; exact ⟨rfl, rfl⟩)
                      clear hK K)))
          refine wpQuiet_nil ?_
          intro W1 hW1
          have HW1 := Lib.hid (HNX.out.trans (hW1.mono hzn))
          have hzW := HW1.out.size
          have HRL := Lib.hid (HR7.out.below hW1)
          obtain ⟨q0, q1, q2, q3, q4, q5, q6, q7, q8, q9, q10, q11⟩ := c12 (rangeAt_below HRQ.out hW1 (rangeAt_lt HRQ.out))
          clear hW1 g1 g2 g3 g4 g5 g3n
          go_wp2_with fail
          refine (HFi.out _ _ _ _ _ HRL.out).mono ?_
          rintro e w9 ⟨⟨j, rfl, hj, hji, hjj⟩ | ⟨rfl, hno⟩, b9⟩
          · have hj0 : (0 : Int) ≤ (j : Int) := Int.natCast_nonneg _
            have HC := Lib.hid (cnt_yes hlt HQo.out)
            clear hj hji hjj q0 q1 q2 q3 q4 q5 q6 q7 q8 q9 q10 q11
            go_wp2
            go_roundw
            case rel => exact ⟨k + 1, z + 1, by omega, by go_num, by go_num, (by rw [HC.out]; have := hzc.out; omega : z + 1 = (cnt (kept s t) os (k + 1) : Int)), HW1.out.trans (b9.mono hzW)⟩
            case measure => simp [intOf]; omega
          · obtain ⟨m, hm, e1, e2⟩ := HLf.out.2 HQ.out
            exact absurd ⟨e1, e2⟩ (hno m hm)
        · have hq2 : q = false := by rw [← hq]; simp [a1, a2, a3, a4, a5]
          have g1 : (o.i == s) = true := by simp [a1]
          have g2 : (o.j == t) = false := by simp [a2]
          have g3 : (o.k == 10) = true := by simp [a3]
          have g3n : (o.k != 10) = false := by simp [a3]
          have g4 : (o.ts == s) = true := by simp [a4]
          have g5 : (o.ta == t) = true := by simp [a5]
          subst hq2
          clear hq a1 a2 a3 a4 a5
          go_wp2
          refine region_lit (C := fun W => Below wr.heap.size wr W) (by kernel_rfl) (by kernel_rfl) (Below.refl _ _).drew ?_
          repeat (
            first
              | (refine wpQuiet_step (fun K hK => ?_)
                 go_simp
                 first
                   | (refine hK _ ?_; clear hK K)
                   | (apply Exists.intro
                      refine ⟨fun W hW => ?_, hK _ ?_⟩
                      · have x0 := HY0.out W hW
                        have x1 := HY1.out W hW
                        obtain ⟨q0, q1, q2, q3, q4, q5, q6, q7, q8, q9, q10, q11⟩ := c12 (rangeAt_below HRQ.out hW (rangeAt_lt HRQ.out))
                        first
                          | (go_simp; exact rfl)
                          | (go_simp; exact ⟨rfl, rfl⟩)
                      clear hK K)))
          refine wpQuiet_nil ?_
          intro W1 hW1
          have HW1 := Lib.hid (HNX.out.trans (hW1.mono hzn))
          have hzW := HW1.out.size
          have HRL := Lib.hid (HR7.out.below hW1)
          obtain ⟨q0, q1, q2, q3, q4, q5, q6, q7, q8, q9, q10, q11⟩ := c12 (rangeAt_below HRQ.out hW1 (rangeAt_lt HRQ.out))
          clear hW1 g1 g2 g3 g4 g5 g3n
          go_wp2_with fail
          refine (HFi.out _ _ _ _ _ HRL.out).mono ?_
          rintro e w9 ⟨⟨j, rfl, hj, hji, hjj⟩ | ⟨rfl, hno⟩, b9⟩
          · have := HLf.out.1 ⟨j, hj, hji, hjj⟩
            rw [HQ.out] at this
            cases this
          · have HC := Lib.hid (cnt_no hlt HQo.out)
            clear hno q0 q1 q2 q3 q4 q5 q6 q7 q8 q9 q10 q11
            go_wp2
            go_roundw
            case rel => exact ⟨k + 1, z, by omega, by go_num, rfl, (by rw [HC.out]; exact hzc.out : z = (cnt (kept s t) os (k + 1) : Int)), HW1.out.trans (b9.mono hzW)⟩
            case measure => simp [intOf]; omega
        · have hq2 : q = false := by rw [← hq]; simp [a1, a2]
          have g1 : (o.i == s) = true := by simp [a1]
          have g2 : (o.j == t) = true := by simp [a2]
          subst hq2
          clear hq a1 a2
          go_wp2
          refine region_lit (C := fun W => Below wr.heap.size wr W) (by kernel_rfl) (by kernel_rfl) (Below.refl _ _).drew ?_
          repeat (
            first
              | (refine wpQuiet_step (fun K hK => ?_)
                 go_simp
                 first
                   | (refine hK _ ?_; clear hK K)
                   | (apply Exists.intro
                      refine ⟨fun W hW => ?_, hK _ ?_⟩
                      · have x0 := HY0.out W hW
                        have x1 := HY1.out W hW
                        obtain ⟨q0, q1, q2, q3, q4, q5, q6, q7, q8, q9, q10, q11⟩ := c12 (rangeAt_below HRQ.out hW (rangeAt_lt HRQ.out))
                        first
                          | (go_simp; exact rfl)
                          | (go_simp; exact ⟨rfl, rfl⟩)
                      clear hK K)))
          refine wpQuiet_nil ?_
          intro W1 hW1
          have HW1 := Lib.hid (HNX.out.trans (hW1.mono hzn))
          have hzW := HW1.out.size
          have HRL := Lib.hid (HR7.out.below hW1)
          obtain ⟨q0, q1, q2, q3, q4, q5, q6, q7, q8, q9, q10, q11⟩ := c12 (rangeAt_below HRQ.out hW1 (rangeAt_lt HRQ.out))
          clear hW1 g1 g2
          go_wp2_with fail
          refine (HFi.out _ _ _ _ _ HRL.out).mono ?_
          rintro e w9 ⟨⟨j, rfl, hj, hji, hjj⟩ | ⟨rfl, hno⟩, b9⟩
          · have := HLf.out.1 ⟨j, hj, hji, hjj⟩
            rw [HQ.out] at this
            cases this
          · have HC := Lib.hid (cnt_no hlt HQo.out)
            clear hno q0 q1 q2 q3 q4 q5 q6 q7 q8 q9 q10 q11
            go_wp2
            go_roundw
            case rel => exact ⟨k + 1, z, by omega, by go_num, rfl, (by rw [HC.out]; exact hzc.out : z = (cnt (kept s t) os (k + 1) : Int)), HW1.out.trans (b9.mono hzW)⟩
            case measure => simp [intOf]; omega
      · obtain rfl : k = os.length := by omega
        have hzl : z = (L.length : Int) := by rw [hzc.out, HLC2.out]
        subst hzl
        have hvl := HVL.out a3 c3 wr HR7.out
        rw [HLV2.out] at hvl
        have HVL2 := Lib.hid hvl
        clear hvl hnx hz0
        go_wp2_with fail
        refine HVL2.out.mono ?_
        rintro e w9 ⟨rfl, b9⟩
        have HB9 := Lib.hid (HB7.out.trans (b9.mono hz7))
        go_wp2
        go_ret
        exact ⟨rfl, HB1.out.trans ((HB2.out.trans (HB9.out.mono h12)).mono hz1)⟩

end Go.Proofs.Ytlogpbejfifgdaa.LwD
