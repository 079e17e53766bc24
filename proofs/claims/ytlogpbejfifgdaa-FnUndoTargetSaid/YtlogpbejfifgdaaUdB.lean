/-
  The walk of the law FnUndoTarget: it returns true, whatever the bytes. No condition.
-/
import Derived.Test.YtlogpbejfifgdaaUdA
import Derived.Test.YtlogpbejfifgdaaUtB
import Derived.Test.YtlogpbejfifgdaaMoB
import Derived.Test.YtlogpbejfifgdaaK2
import Derived.Outline
namespace Go.Proofs.Ytlogpbejfifgdaa.UdB
open Go.RowKit Go.Proofs.Ytlogpbejfifgdaa.Base Go.Proofs.Ytlogpbejfifgdaa.St Go.Proofs.Ytlogpbejfifgdaa.StB Go.Proofs.Ytlogpbejfifgdaa.OpA Go.Proofs.Ytlogpbejfifgdaa.OpB Go.Proofs.Ytlogpbejfifgdaa.LgA Go.Proofs.Ytlogpbejfifgdaa.LgB Go.Proofs.Ytlogpbejfifgdaa.LgC Go.Proofs.Ytlogpbejfifgdaa.LgF Go.Proofs.Ytlogpbejfifgdaa.LgH Go.Proofs.Ytlogpbejfifgdaa.LgI Go.Proofs.Ytlogpbejfifgdaa.LgP Go.Proofs.Ytlogpbejfifgdaa.LiA Go.Proofs.Ytlogpbejfifgdaa.LiB Go.Proofs.Ytlogpbejfifgdaa.RdA Go.Proofs.Ytlogpbejfifgdaa.RdB Go.Proofs.Ytlogpbejfifgdaa.RdD Go.Proofs.Ytlogpbejfifgdaa.UtA Go.Proofs.Ytlogpbejfifgdaa.UtB Go.Proofs.Ytlogpbejfifgdaa.UdA Go.Proofs.Ytlogpbejfifgdaa.MoB
set_option linter.unusedVariables false
attribute [local go_sem ↓] Go.wp_at_zero Go.wp_at_succ
attribute [local irreducible] Go.wpQuiet

set_option maxRecDepth 100000 in
set_option maxHeartbeats 8000000 in
theorem walk (a0 : Option Addr) (len0 cap0 : Nat) (z0 : List Int) (w : World) (r0 : IsRow .u8 w a0 len0 cap0 z0) :
    Calls Try.prog 4 #[.slice a0 len0 cap0] w fun e w' => e = .returned (.bool true) ∧ Below w.heap.size w w' := by
  obtain ⟨xs, rfl, hx, rx⟩ := bytes_rd r0
  clear r0
  by_cases l0 : (1048576 : Int) < (xs.length : Int)
  · clear rx
    go_enter Try.func4, Try.ntmps4
    go_wp2
    go_ret
    exact ⟨rfl, Below.refl _ _⟩
  have HD := Lib.hid (drawUndo a0 cap0 xs w rx hx)
  clear rx hx
  go_enter Try.func4, Try.ntmps4
  go_wp2_with fail
  refine HD.out.mono ?_
  rintro e w1 ⟨⟨A, c, os, who, rfl, hrow, hlen, ht⟩, b1⟩
  have hz1 := b1.size
  have htm : ∀ k, k < os.length → (os.getD k zop).tx.size ≤ maxLen := fun k hk => by have := ht k hk; unfold maxLen; omega
  have hI := impl_UndoTarget A c os who w1 hrow.rd (by omega) htm
  have hS := fun W (hb : Below w1.heap.size w1 W) => spec_UndoTarget A c os who W (hrow.rd.below hb) (by omega) htm
  have hV := fun W (hb : Below w1.heap.size w1 W) => impl_ValidLog ivop A c os W (hrow.rd.below hb) (by omega) htm
  have HAc := Lib.hid (fun W (hb : Below w1.heap.size w1 W) => impl_ActiveOps A c os W (hrow.rd.below hb) (by omega) htm)
  have HFi := Lib.hid (fun s t W (hb : Below w1.heap.size w1 W) => findOp A c os s t W (hrow.rd.below hb) (by omega))
  have HRow := Lib.hid hrow.rd
  have HB1 := Lib.hid b1
  obtain ⟨⟨s, t⟩, hst⟩ : ∃ st, ut os who = st := ⟨_, rfl⟩
  obtain ⟨ok, hok⟩ : ∃ ok, vlog os = ok := ⟨_, rfl⟩
  rw [hst] at hI hS
  rw [hok] at hV
  have HI := Lib.hid hI
  have HS := Lib.hid hS
  have HV := Lib.hid hV
  have HST := Lib.hid hst
  have HOK := Lib.hid hok
  clear hrow ht htm HD l0 hI hS hV b1 hst hok
  go_wp2_with fail
  refine HI.out.mono ?_
  rintro e w2 ⟨rfl, b2⟩
  obtain ⟨w3, hw3⟩ : ∃ w3, w3 = w2.alloc (.cells #[.int .i64 s, .int .i64 t] 25) := ⟨_, rfl⟩
  have hb3 : Below w2.heap.size w2 w3 := by rw [hw3]; exact (Below.refl _ _).alloc (Nat.le_refl _) _
  have HB3 := Lib.hid (b2.trans (hb3.mono b2.size))
  have hz3 : w2.heap.size < w3.heap.size := by rw [hw3]; simp
  have hz2 := b2.size
  obtain ⟨n, hn⟩ : ∃ n, n = w2.heap.size := ⟨_, rfl⟩
  have hnz : n < w3.heap.size := by omega
  have e0 : w3.cell? ⟨n, 0, none⟩ = some (.int .i64 s) := by rw [hn, hw3]; simp [go_sem]
  have e1 : w3.cell? ⟨n, 1, none⟩ = some (.int .i64 t) := by rw [hn, hw3]; simp [go_sem]
  have HX0 := Lib.hid (fun W (hW : Below w3.heap.size w3 W) => ((hW.cell (p := ⟨n, 0, none⟩) hnz).trans e0 : W.cell? ⟨n, 0, none⟩ = some (.int .i64 s)))
  have HX1 := Lib.hid (fun W (hW : Below w3.heap.size w3 W) => ((hW.cell (p := ⟨n, 1, none⟩) hnz).trans e1 : W.cell? ⟨n, 1, none⟩ = some (.int .i64 t)))
  have HSW := Lib.hid (fun W (hW : Below w3.heap.size w3 W) => HS.out W (HB3.out.trans (hW.mono (by omega))))
  have HVW := Lib.hid (fun W (hW : Below w3.heap.size w3 W) => HV.out W (HB3.out.trans (hW.mono (by omega))))
  have HW3 := Lib.hid hw3
  have h13 : w1.heap.size ≤ w3.heap.size := by omega
  have HN := Lib.hid hn
  clear hb3 b2 hw3 e0 e1 HI HS HV hz2 hn
  cases ok
  · go_wp2
    rw [← HW3.out, ← HN.out]
    refine region_lit (C := fun W => Below w3.heap.size w3 W) (by kernel_rfl) (by kernel_rfl) (Below.refl _ _).drew ?_
    repeat (
      first
        | (refine wpQuiet_step (fun K hK => ?_)
           go_simp
           first
             | (refine hK _ ?_; clear hK K)
             | (apply Exists.intro
                refine ⟨fun W hW => ?_, hK _ ?_⟩
                · have x0 := HX0.out W hW
                  have x1 := HX1.out W hW
                  first
                    | (go_simp; exact rfl)
                    | (go_simp; exact ⟨rfl, rfl⟩)
                    | with_reducible exact (HSW.out _ hW).mono (fun e wn ⟨he, hbn⟩ => ⟨he, hW.trans (hbn.mono hW.size)⟩)
                    | with_reducible exact ⟨rfl, (HSW.out _ hW).mono (fun e wn ⟨he, hbn⟩ => ⟨he, hW.trans (hbn.mono hW.size)⟩)⟩
                    | with_reducible exact (HVW.out _ hW).mono (fun e wn ⟨he, hbn⟩ => ⟨he, hW.trans (hbn.mono hW.size)⟩)
                    | with_reducible exact ⟨rfl, (HVW.out _ hW).mono (fun e wn ⟨he, hbn⟩ => ⟨he, hW.trans (hbn.mono hW.size)⟩)⟩
                clear hK K)))
    refine wpQuiet_nil ?_
    intro W1 hW1
    have HB4 := Lib.hid hW1
    go_wp2
    refine region_lit (C := fun W => Below w3.heap.size w3 W) (by kernel_rfl) (by kernel_rfl) HB4.out.drew ?_
    repeat (
      first
        | (refine wpQuiet_step (fun K hK => ?_)
           go_simp
           first
             | (refine hK _ ?_; clear hK K)
             | (apply Exists.intro
                refine ⟨fun W hW => ?_, hK _ ?_⟩
                · have x0 := HX0.out W hW
                  have x1 := HX1.out W hW
                  first
                    | (go_simp; exact rfl)
                    | (go_simp; exact ⟨rfl, rfl⟩)
                    | with_reducible exact (HSW.out _ hW).mono (fun e wn ⟨he, hbn⟩ => ⟨he, hW.trans (hbn.mono hW.size)⟩)
                    | with_reducible exact ⟨rfl, (HSW.out _ hW).mono (fun e wn ⟨he, hbn⟩ => ⟨he, hW.trans (hbn.mono hW.size)⟩)⟩
                    | with_reducible exact (HVW.out _ hW).mono (fun e wn ⟨he, hbn⟩ => ⟨he, hW.trans (hbn.mono hW.size)⟩)
                    | with_reducible exact ⟨rfl, (HVW.out _ hW).mono (fun e wn ⟨he, hbn⟩ => ⟨he, hW.trans (hbn.mono hW.size)⟩)⟩
                clear hK K)))
    refine wpQuiet_nil ?_
    intro W2 hW2
    go_wp2
    go_ret
    exact ⟨rfl, HB1.out.trans ((HB3.out.trans (hW2.mono h13)).mono hz1)⟩
  · go_wp2
    rw [← HW3.out, ← HN.out]
    refine region_lit (C := fun W => Below w3.heap.size w3 W) (by kernel_rfl) (by kernel_rfl) (Below.refl _ _).drew ?_
    repeat (
      first
        | (refine wpQuiet_step (fun K hK => ?_)
           go_simp
           first
             | (refine hK _ ?_; clear hK K)
             | (apply Exists.intro
                refine ⟨fun W hW => ?_, hK _ ?_⟩
                · have x0 := HX0.out W hW
                  have x1 := HX1.out W hW
                  first
                    | (go_simp; exact rfl)
                    | (go_simp; exact ⟨rfl, rfl⟩)
                    | with_reducible exact (HSW.out _ hW).mono (fun e wn ⟨he, hbn⟩ => ⟨he, hW.trans (hbn.mono hW.size)⟩)
                    | with_reducible exact ⟨rfl, (HSW.out _ hW).mono (fun e wn ⟨he, hbn⟩ => ⟨he, hW.trans (hbn.mono hW.size)⟩)⟩
                    | with_reducible exact (HVW.out _ hW).mono (fun e wn ⟨he, hbn⟩ => ⟨he, hW.trans (hbn.mono hW.size)⟩)
                    | with_reducible exact ⟨rfl, (HVW.out _ hW).mono (fun e wn ⟨he, hbn⟩ => ⟨he, hW.trans (hbn.mono hW.size)⟩)⟩
                clear hK K)))
    refine wpQuiet_nil ?_
    intro W1 hW1
    have HB4 := Lib.hid hW1
    have hz4 := hW1.size
    clear hW1
    go_wp2_with fail
    refine (HAc.out _ (HB3.out.trans (HB4.out.mono h13))).mono ?_
    rintro e w5 ⟨a5, c5, rfl, row5, b5⟩
    have HB5 := Lib.hid (HB4.out.trans (b5.mono hz4))
    have hz5 := HB5.out.size
    have HRo5 := Lib.hid row5
    have hlr : (act os).length = os.length := by unfold act; rw [HOK.out, if_pos rfl, actv_len]
    have HGet := Lib.hid (fun (i : Nat) (hi : i < os.length) => (by unfold act; rw [HOK.out, if_pos rfl, actv_get os hi] : (act os).getD i false = liv os i (os.length - (i + 1))))
    generalize act os = res at HRo5 hlr HGet
    have HLaw := Lib.hid (fun (i : Nat) (hi : i < os.length) => ut_law HOK.out HST.out hi)
    have HIn := Lib.hid (ut_in HOK.out HST.out)
    clear b5 row5 HAc HSW HVW HB4 hz4
    rw [hlr] at HRo5
    go_wp2
    go_loopw [7] (fun i wr => ∃ k : Nat, k ≤ os.length ∧ i = .int .i64 k ∧ Below w5.heap.size w5 wr) (fun i _ => os.length - (intOf i).toNat)
    case atStart => exact ⟨0, Nat.zero_le _, rfl, Below.refl _ _⟩
    case round =>
      obtain ⟨k, hk, rfl, hnx⟩ := hrel
      have HB6 := Lib.hid (HB5.out.trans (hnx.mono hz5))
      have hzw := HB6.out.size
      by_cases hlt : k < os.length
      · rcases HRow.out with h0 | ⟨b, off, rfl, hc⟩
        · rw [h0] at hlt; exact absurd hlt (by simp)
        rcases HRo5.out with ⟨_, h0⟩ | ⟨bl, rfl, hbl, ol⟩
        · omega
        obtain ⟨q, hq⟩ : ∃ q, q = os.getD k zop := ⟨_, rfl⟩
        have HRQ := Lib.hid (by rw [hq]; exact rangeAt_below (hc k hlt) (HB3.out.trans (HB6.out.mono h13)) (rangeAt_lt (hc k hlt)) : wr.rangeAt b (off + k * 12) (opL q))
        obtain ⟨lv, hlv⟩ : ∃ lv, liv os k (os.length - (k + 1)) = lv := ⟨_, rfl⟩
        have HL := Lib.hid (show OwnB wr bl c5 os.length (fun i => res.getD i false) from ol.below hnx)
        have hgl : res.getD k false = lv := by rw [HGet.out k hlt, hlv]
        have HCL := Lib.hid (fun W (hW : Below wr.heap.size wr W) => (by rw [← hgl]; exact (HL.out.below hW).cell hlt : W.cell? ⟨bl, k, none⟩ = some (.bool lv)))
        have hh : hitU os who k = (lv && (!decide (q.k = 10) && decide (q.j = who))) := by rw [hitU, hlv, hq]
        have HH := Lib.hid hh
        have hlaw := HLaw.out k hlt
        rw [← hq] at hlaw
        have HLw := Lib.hid hlaw
        have HY0 := Lib.hid (fun W (hW : Below wr.heap.size wr W) => HX0.out W (HB6.out.trans (hW.mono hzw)))
        have HY1 := Lib.hid (fun W (hW : Below wr.heap.size wr W) => HX1.out W (HB6.out.trans (hW.mono hzw)))
        have HNX := Lib.hid hnx
        have hzx := hnx.size
        clear hq hgl hlv hh hc ol hlaw hnx
        have hk0 : (0 : Int) ≤ (k : Int) := Int.natCast_nonneg _
        have hk1 : (k : Int) < (os.length : Int) := by omega
        have hk2 : (k : Int) < (res.length : Int) := by omega
        rcases (show (¬ q.j = who) ∨ (q.j = who ∧ q.k = 10) ∨ (q.j = who ∧ ¬ q.k = 10 ∧ lv = false) ∨ (q.j = who ∧ ¬ q.k = 10 ∧ lv = true) by cases lv <;> simp <;> omega) with a0 | ⟨a0, a1⟩ | ⟨a0, a1, a2⟩ | ⟨a0, a1, a2⟩
        · have hh : hitU os who k = false := by rw [HH.out]; simp [a0]
          have ga : (q.j == who) = false := by simp [a0]
          have hne : ¬ (q.i = s ∧ q.j = t) := fun hc => by have := HLw.out.1 hc.1 hc.2; rw [hh] at this; cases this
          have hsp : (¬ q.i = s) ∨ (q.i = s ∧ ¬ q.j = t) := by omega
          have y0 := HCL.out wr (Below.refl _ _)
          obtain ⟨q0, q1, q2, q3, q4, q5, q6, q7, q8, q9, q10, q11⟩ := c12 HRQ.out
          clear hh hne a0
          rcases hsp with b0 | ⟨b0, b1⟩
          · skip
            have gc : (q.i == s) = false := by simp [b0]
            clear b0
            go_wp2
            refine region_lit (C := fun W => Below wr.heap.size wr W) (by kernel_rfl) (by kernel_rfl) (Below.refl _ _).drew ?_
            repeat (
              first
                | (refine wpQuiet_step (fun K hK => ?_)
                   go_simp
                   first
                     | (refine hK _ ?_; clear hK K)
                     | (apply Exists.intro
                        refine ⟨fun W hW => ?_, hK _ ?_⟩
                        · have x0 := HY0.out W hW
                          have x1 := HY1.out W hW
                          obtain ⟨q0, q1, q2, q3, q4, q5, q6, q7, q8, q9, q10, q11⟩ := c12 (rangeAt_below HRQ.out hW (rangeAt_lt HRQ.out))
                          first
                            | (go_simp; exact rfl)
                            | (go_simp; exact ⟨rfl, rfl⟩)
                        clear hK K)))
            refine wpQuiet_nil ?_
            intro W1 hW1
            go_wp2
            go_roundw
            case rel => exact ⟨k + 1, by omega, by go_num, HNX.out.trans (hW1.mono hzx)⟩
            case measure => simp [intOf]; omega
          · skip
            have gc : (q.i == s) = true := by simp [b0]
            have gd : (q.j == t) = false := by simp [b1]
            clear b0 b1
            go_wp2
            refine region_lit (C := fun W => Below wr.heap.size wr W) (by kernel_rfl) (by kernel_rfl) (Below.refl _ _).drew ?_
            repeat (
              first
                | (refine wpQuiet_step (fun K hK => ?_)
                   go_simp
                   first
                     | (refine hK _ ?_; clear hK K)
                     | (apply Exists.intro
                        refine ⟨fun W hW => ?_, hK _ ?_⟩
                        · have x0 := HY0.out W hW
                          have x1 := HY1.out W hW
                          obtain ⟨q0, q1, q2, q3, q4, q5, q6, q7, q8, q9, q10, q11⟩ := c12 (rangeAt_below HRQ.out hW (rangeAt_lt HRQ.out))
                          first
                            | (go_simp; exact rfl)
                            | (go_simp; exact ⟨rfl, rfl⟩)
                        clear hK K)))
            refine wpQuiet_nil ?_
            intro W1 hW1
            go_wp2
            go_roundw
            case rel => exact ⟨k + 1, by omega, by go_num, HNX.out.trans (hW1.mono hzx)⟩
            case measure => simp [intOf]; omega
        · have hh : hitU os who k = false := by rw [HH.out]; simp [a1]
          have ga : (q.j == who) = true := by simp [a0]
          have gb : (q.k == 10) = true := by simp [a1]
          have gbn : (q.k != 10) = false := by simp [a1]
          have hne : ¬ (q.i = s ∧ q.j = t) := fun hc => by have := HLw.out.1 hc.1 hc.2; rw [hh] at this; cases this
          have hsp : (¬ q.i = s) ∨ (q.i = s ∧ ¬ q.j = t) := by omega
          have y0 := HCL.out wr (Below.refl _ _)
          obtain ⟨q0, q1, q2, q3, q4, q5, q6, q7, q8, q9, q10, q11⟩ := c12 HRQ.out
          clear hh hne a0 a1
          rcases hsp with b0 | ⟨b0, b1⟩
          · skip
            have gc : (q.i == s) = false := by simp [b0]
            clear b0
            go_wp2
            refine region_lit (C := fun W => Below wr.heap.size wr W) (by kernel_rfl) (by kernel_rfl) (Below.refl _ _).drew ?_
            repeat (
              first
                | (refine wpQuiet_step (fun K hK => ?_)
                   go_simp
                   first
                     | (refine hK _ ?_; clear hK K)
                     | (apply Exists.intro
                        refine ⟨fun W hW => ?_, hK _ ?_⟩
                        · have x0 := HY0.out W hW
                          have x1 := HY1.out W hW
                          obtain ⟨q0, q1, q2, q3, q4, q5, q6, q7, q8, q9, q10, q11⟩ := c12 (rangeAt_below HRQ.out hW (rangeAt_lt HRQ.out))
                          first
                            | (go_simp; exact rfl)
                            | (go_simp; exact ⟨rfl, rfl⟩)
                        clear hK K)))
            refine wpQuiet_nil ?_
            intro W1 hW1
            go_wp2
            go_roundw
            case rel => exact ⟨k + 1, by omega, by go_num, HNX.out.trans (hW1.mono hzx)⟩
            case measure => simp [intOf]; omega
          · skip
            have gc : (q.i == s) = true := by simp [b0]
            have gd : (q.j == t) = false := by simp [b1]
            clear b0 b1
            go_wp2
            refine region_lit (C := fun W => Below wr.heap.size wr W) (by kernel_rfl) (by kernel_rfl) (Below.refl _ _).drew ?_
            repeat (
              first
                | (refine wpQuiet_step (fun K hK => ?_)
                   go_simp
                   first
                     | (refine hK _ ?_; clear hK K)
                     | (apply Exists.intro
                        refine ⟨fun W hW => ?_, hK _ ?_⟩
                        · have x0 := HY0.out W hW
                          have x1 := HY1.out W hW
                          obtain ⟨q0, q1, q2, q3, q4, q5, q6, q7, q8, q9, q10, q11⟩ := c12 (rangeAt_below HRQ.out hW (rangeAt_lt HRQ.out))
                          first
                            | (go_simp; exact rfl)
                            | (go_simp; exact ⟨rfl, rfl⟩)
                        clear hK K)))
            refine wpQuiet_nil ?_
            intro W1 hW1
            go_wp2
            go_roundw
            case rel => exact ⟨k + 1, by omega, by go_num, HNX.out.trans (hW1.mono hzx)⟩
            case measure => simp [intOf]; omega
        · have hh : hitU os who k = false := by rw [HH.out]; simp [a2]
          subst a2
          have ga : (q.j == who) = true := by simp [a0]
          have gb : (q.k == 10) = false := by simp [a1]
          have gbn : (q.k != 10) = true := by simp [a1]
          have hne : ¬ (q.i = s ∧ q.j = t) := fun hc => by have := HLw.out.1 hc.1 hc.2; rw [hh] at this; cases this
          have hsp : (¬ q.i = s) ∨ (q.i = s ∧ ¬ q.j = t) := by omega
          have y0 := HCL.out wr (Below.refl _ _)
          obtain ⟨q0, q1, q2, q3, q4, q5, q6, q7, q8, q9, q10, q11⟩ := c12 HRQ.out
          clear hh hne a0 a1
          rcases hsp with b0 | ⟨b0, b1⟩
          · skip
            have gc : (q.i == s) = false := by simp [b0]
            clear b0
            go_wp2
            refine region_lit (C := fun W => Below wr.heap.size wr W) (by kernel_rfl) (by kernel_rfl) (Below.refl _ _).drew ?_
            repeat (
              first
                | (refine wpQuiet_step (fun K hK => ?_)
                   go_simp
                   first
                     | (refine hK _ ?_; clear hK K)
                     | (apply Exists.intro
                        refine ⟨fun W hW => ?_, hK _ ?_⟩
                        · have x0 := HY0.out W hW
                          have x1 := HY1.out W hW
                          obtain ⟨q0, q1, q2, q3, q4, q5, q6, q7, q8, q9, q10, q11⟩ := c12 (rangeAt_below HRQ.out hW (rangeAt_lt HRQ.out))
                          first
                            | (go_simp; exact rfl)
                            | (go_simp; exact ⟨rfl, rfl⟩)
                        clear hK K)))
            refine wpQuiet_nil ?_
            intro W1 hW1
            go_wp2
            go_roundw
            case rel => exact ⟨k + 1, by omega, by go_num, HNX.out.trans (hW1.mono hzx)⟩
            case measure => simp [intOf]; omega
          · skip
            have gc : (q.i == s) = true := by simp [b0]
            have gd : (q.j == t) = false := by simp [b1]
            clear b0 b1
            go_wp2
            refine region_lit (C := fun W => Below wr.heap.size wr W) (by kernel_rfl) (by kernel_rfl) (Below.refl _ _).drew ?_
            repeat (
              first
                | (refine wpQuiet_step (fun K hK => ?_)
                   go_simp
                   first
                     | (refine hK _ ?_; clear hK K)
                     | (apply Exists.intro
                        refine ⟨fun W hW => ?_, hK _ ?_⟩
                        · have x0 := HY0.out W hW
                          have x1 := HY1.out W hW
                          obtain ⟨q0, q1, q2, q3, q4, q5, q6, q7, q8, q9, q10, q11⟩ := c12 (rangeAt_below HRQ.out hW (rangeAt_lt HRQ.out))
                          first
                            | (go_simp; exact rfl)
                            | (go_simp; exact ⟨rfl, rfl⟩)
                        clear hK K)))
            refine wpQuiet_nil ?_
            intro W1 hW1
            go_wp2
            go_roundw
            case rel => exact ⟨k + 1, by omega, by go_num, HNX.out.trans (hW1.mono hzx)⟩
            case measure => simp [intOf]; omega
        · have hh : hitU os who k = true := by rw [HH.out]; simp [a0, a1, a2]
          subst a2
          have ga : (q.j == who) = true := by simp [a0]
          have gb : (q.k == 10) = false := by simp [a1]
          have gbn : (q.k != 10) = true := by simp [a1]
          obtain ⟨hs0, hsl⟩ := HLw.out.2 hh
          have gz : (s == 0) = false := by simp [hs0]
          have HSL := Lib.hid (fun W => (by have := impl_StampLess s t q.i q.j W; rwa [hsl] at this : Calls Try.prog 24 #[.agg #[.int .i64 s, .int .i64 t], .agg #[.int .i64 q.i, .int .i64 q.j]] W fun e w' => e = .returned (.bool false) ∧ Below W.heap.size W w'))
          clear hs0 hsl
          have hsp : (¬ q.i = s) ∨ (q.i = s ∧ ¬ q.j = t) ∨ (q.i = s ∧ q.j = t) := by omega
          have y0 := HCL.out wr (Below.refl _ _)
          obtain ⟨q0, q1, q2, q3, q4, q5, q6, q7, q8, q9, q10, q11⟩ := c12 HRQ.out
          clear hh  a0 a1
          rcases hsp with b0 | ⟨b0, b1⟩ | ⟨b0, b1⟩
          · skip
            have gc : (q.i == s) = false := by simp [b0]
            clear b0
            go_wp2
            refine region_lit (C := fun W => Below wr.heap.size wr W) (by kernel_rfl) (by kernel_rfl) (Below.refl _ _).drew ?_
            repeat (
              first
                | (refine wpQuiet_step (fun K hK => ?_)
                   go_simp
                   first
                     | (refine hK _ ?_; clear hK K)
                     | (apply Exists.intro
                        refine ⟨fun W hW => ?_, hK _ ?_⟩
                        · have x0 := HY0.out W hW
                          have x1 := HY1.out W hW
                          obtain ⟨q0, q1, q2, q3, q4, q5, q6, q7, q8, q9, q10, q11⟩ := c12 (rangeAt_below HRQ.out hW (rangeAt_lt HRQ.out))
                          first
                            | (go_simp; exact rfl)
                            | (go_simp; exact ⟨rfl, rfl⟩)
                            | with_reducible exact (HSL.out _).mono (fun e wn ⟨he, hbn⟩ => ⟨he, hW.trans (hbn.mono hW.size)⟩)
                            | with_reducible exact ⟨rfl, (HSL.out _).mono (fun e wn ⟨he, hbn⟩ => ⟨he, hW.trans (hbn.mono hW.size)⟩)⟩
                        clear hK K)))
            refine wpQuiet_nil ?_
            intro W1 hW1
            go_wp2
            go_roundw
            case rel => exact ⟨k + 1, by omega, by go_num, HNX.out.trans (hW1.mono hzx)⟩
            case measure => simp [intOf]; omega
          · skip
            have gc : (q.i == s) = true := by simp [b0]
            have gd : (q.j == t) = false := by simp [b1]
            clear b0 b1
            go_wp2
            refine region_lit (C := fun W => Below wr.heap.size wr W) (by kernel_rfl) (by kernel_rfl) (Below.refl _ _).drew ?_
            repeat (
              first
                | (refine wpQuiet_step (fun K hK => ?_)
                   go_simp
                   first
                     | (refine hK _ ?_; clear hK K)
                     | (apply Exists.intro
                        refine ⟨fun W hW => ?_, hK _ ?_⟩
                        · have x0 := HY0.out W hW
                          have x1 := HY1.out W hW
                          obtain ⟨q0, q1, q2, q3, q4, q5, q6, q7, q8, q9, q10, q11⟩ := c12 (rangeAt_below HRQ.out hW (rangeAt_lt HRQ.out))
                          first
                            | (go_simp; exact rfl)
                            | (go_simp; exact ⟨rfl, rfl⟩)
                            | with_reducible exact (HSL.out _).mono (fun e wn ⟨he, hbn⟩ => ⟨he, hW.trans (hbn.mono hW.size)⟩)
                            | with_reducible exact ⟨rfl, (HSL.out _).mono (fun e wn ⟨he, hbn⟩ => ⟨he, hW.trans (hbn.mono hW.size)⟩)⟩
                        clear hK K)))
            refine wpQuiet_nil ?_
            intro W1 hW1
            go_wp2
            go_roundw
            case rel => exact ⟨k + 1, by omega, by go_num, HNX.out.trans (hW1.mono hzx)⟩
            case measure => simp [intOf]; omega
          · skip
            have gc : (q.i == s) = true := by simp [b0]
            have gd : (q.j == t) = true := by simp [b1]
            clear b0 b1
            go_wp2
            refine region_lit (C := fun W => Below wr.heap.size wr W) (by kernel_rfl) (by kernel_rfl) (Below.refl _ _).drew ?_
            repeat (
              first
                | (refine wpQuiet_step (fun K hK => ?_)
                   go_simp
                   first
                     | (refine hK _ ?_; clear hK K)
                     | (apply Exists.intro
                        refine ⟨fun W hW => ?_, hK _ ?_⟩
                        · have x0 := HY0.out W hW
                          have x1 := HY1.out W hW
                          obtain ⟨q0, q1, q2, q3, q4, q5, q6, q7, q8, q9, q10, q11⟩ := c12 (rangeAt_below HRQ.out hW (rangeAt_lt HRQ.out))
                          first
                            | (go_simp; exact rfl)
                            | (go_simp; exact ⟨rfl, rfl⟩)
                            | with_reducible exact (HSL.out _).mono (fun e wn ⟨he, hbn⟩ => ⟨he, hW.trans (hbn.mono hW.size)⟩)
                            | with_reducible exact ⟨rfl, (HSL.out _).mono (fun e wn ⟨he, hbn⟩ => ⟨he, hW.trans (hbn.mono hW.size)⟩)⟩
                        clear hK K)))
            refine wpQuiet_nil ?_
            intro W1 hW1
            go_wp2
            go_roundw
            case rel => exact ⟨k + 1, by omega, by go_num, HNX.out.trans (hW1.mono hzx)⟩
            case measure => simp [intOf]; omega
      · obtain rfl : k = os.length := by omega
        have x0 := HX0.out wr HB6.out
        have x1 := HX1.out wr HB6.out
        have HB7 := Lib.hid (HB1.out.trans ((HB3.out.trans (HB6.out.mono h13)).mono hz1))
        rcases HIn.out with ⟨rfl, rfl⟩ | ⟨hs0, hm⟩
        · go_wp2
          go_ret
          exact ⟨rfl, HB7.out⟩
        · have gz : (s == 0) = false := by simp [hs0]
          have HM := Lib.hid hm
          have HF := Lib.hid (HFi.out s t wr (HB3.out.trans (HB6.out.mono h13)))
          clear hs0 hm hnx
          go_wp2_with fail
          refine HF.out.mono ?_
          rintro e w9 ⟨⟨j, rfl, hj, _⟩ | ⟨rfl, hno⟩, b9⟩
          · have hj0 : (0 : Int) ≤ (j : Int) := Int.natCast_nonneg _
            clear hj
            go_wp2
            go_ret
            exact ⟨rfl, HB7.out.trans (b9.mono HB7.out.size)⟩
          · obtain ⟨m, hm, e1, e2⟩ := HM.out
            exact absurd ⟨e1, e2⟩ (hno m hm)

end Go.Proofs.Ytlogpbejfifgdaa.UdB
