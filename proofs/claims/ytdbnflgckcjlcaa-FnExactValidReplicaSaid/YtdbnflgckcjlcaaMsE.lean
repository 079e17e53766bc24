/-
  ValidReplica of the model: contract. For logs and messages that read as lists of at most 2^20.
-/
import Derived.Test.YtdbnflgckcjlcaaMsD
import Derived.Test.YtdbnflgckcjlcaaK2
import Derived.Test.YtdbnflgckcjlcaaK5
import Derived.Laws.EntriesVeiled
import Derived.Outline
namespace Go.Proofs.Ytdbnflgckcjlcaa.MsE
open Go.RowKit Go.Proofs.Ytdbnflgckcjlcaa.Base Go.Proofs.Ytdbnflgckcjlcaa.St Go.Proofs.Ytdbnflgckcjlcaa.StB Go.Proofs.Ytdbnflgckcjlcaa.OpA Go.Proofs.Ytdbnflgckcjlcaa.OpW Go.Proofs.Ytdbnflgckcjlcaa.OpB Go.Proofs.Ytdbnflgckcjlcaa.OpT Go.Proofs.Ytdbnflgckcjlcaa.LgA Go.Proofs.Ytdbnflgckcjlcaa.LgB Go.Proofs.Ytdbnflgckcjlcaa.LgC Go.Proofs.Ytdbnflgckcjlcaa.LgD Go.Proofs.Ytdbnflgckcjlcaa.LgF Go.Proofs.Ytdbnflgckcjlcaa.LgG Go.Proofs.Ytdbnflgckcjlcaa.LgH Go.Proofs.Ytdbnflgckcjlcaa.LgI Go.Proofs.Ytdbnflgckcjlcaa.MsA Go.Proofs.Ytdbnflgckcjlcaa.MsB Go.Proofs.Ytdbnflgckcjlcaa.MsC Go.Proofs.Ytdbnflgckcjlcaa.MsD
open Go.Proofs.Ytdbnflgckcjlcaa.GsA (Elt RdG OwnG RdG.below rangeAt_ltG)
set_option linter.unusedVariables false
attribute [local go_sem ↓] Go.wp_at_zero Go.wp_at_succ
attribute [local irreducible] Go.wpQuiet

set_option maxRecDepth 100000 in
set_option maxHeartbeats 4000000 in
theorem spec_validReplica (au : Int) (a a2 : Option Addr) (c c2 : Nat) (os : List OpV) (ms : List MsgV) (w : World) (hr : RdO w a os) (hl : os.length ≤ 1048576) (ht : ∀ k, k < os.length → (os.getD k zop).tx.size ≤ maxLen)
    (hr2 : RdG EMsg w a2 ms) (hl2 : ms.length ≤ 1048576) (ht2 : ∀ k, k < ms.length → (ms.getD k zMsg).o.tx.size ≤ maxLen) :
    Calls Try.prog 52 #[.agg #[.int .i64 au, .slice a os.length c, .slice a2 ms.length c2]] w fun e w' => e = .returned (.bool (vrep au os ms)) ∧ Below w.heap.size w w' := by
  obtain ⟨w0, hw0⟩ : ∃ w0, w0 = w.alloc (.cells #[.int .i64 au, .slice a os.length c, .slice a2 ms.length c2] 50) := ⟨_, rfl⟩
  have hz : w.heap.size < w0.heap.size := by rw [hw0]; simp
  have hB : Below w.heap.size w w0 := by rw [hw0]; exact (Below.refl _ _).alloc (Nat.le_refl _) _
  have HE := Lib.hid (by rw [hw0]; simp [go_sem] : w0.cell? ⟨w.heap.size, 0, none⟩ = some (.int .i64 au) ∧ w0.cell? ⟨w.heap.size, 1, none⟩ = some (.slice a os.length c) ∧ w0.cell? ⟨w.heap.size, 2, none⟩ = some (.slice a2 ms.length c2))
  have HR2 := Lib.hid (hr2.below hB)
  have HVL := Lib.hid (fun W (hW : Below w.heap.size w W) => spec_validLog svop a c os W (RdO.below hr hW) hl ht)
  have HT2 := Lib.hid ht2
  have HB := Lib.hid hB
  have HZ := Lib.hid hz
  have HW := Lib.hid hw0
  have hvr : vrep au os ms = ((okm ms ms.length && asm ms (ms.length - 1)) && (inR au 0 2 && (vlog os && decide (ms.length ≤ 20)))) := rfl
  have HVR := Lib.hid hvr
  obtain ⟨rv, hrv⟩ : ∃ rv, vrep au os ms = rv := ⟨_, rfl⟩
  rw [hrv]
  rw [hrv] at HVR
  clear hr hr2 ht ht2 hB hz hw0 hvr hrv
  go_enter Try.func52, Try.ntmps52
  go_wp2_with fail
  rw [← HW.out]
  go_loopw [3] (fun i wr => ∃ k : Nat, k ≤ ms.length ∧ i = .int .i64 k ∧ Hid (okm ms k = true ∧ asm ms (k - 1) = true) ∧ Below w0.heap.size w0 wr) (fun i _ => ms.length - (intOf i).toNat)
  case atStart => exact ⟨0, Nat.zero_le _, rfl, ⟨rfl, rfl⟩, Below.refl _ _⟩
  case round =>
    obtain ⟨k, hk, rfl, hok, hnx⟩ := hrel
    have hzw : w0.heap.size ≤ wr.heap.size := hnx.size
    have hzr : w.heap.size < wr.heap.size := Nat.lt_of_lt_of_le HZ.out hzw
    have f0 := (hnx.cell (p := ⟨w.heap.size, 0, none⟩) HZ.out).trans HE.out.1
    have f1 := (hnx.cell (p := ⟨w.heap.size, 1, none⟩) HZ.out).trans HE.out.2.1
    have f2 := (hnx.cell (p := ⟨w.heap.size, 2, none⟩) HZ.out).trans HE.out.2.2
    have HF2 := Lib.hid f2
    have HBR := Lib.hid (HB.out.trans (hnx.mono (Nat.le_of_lt HZ.out)))
    by_cases hlt : k < ms.length
    · rcases HR2.out with h0 | ⟨b, off, rfl, hc⟩
      · rw [h0] at hlt; exact absurd hlt (by simp)
      obtain ⟨x, hx⟩ : ∃ x, x = ms.getD k zMsg := ⟨_, rfl⟩
      have HRX := Lib.hid (by rw [hx]; exact rangeAt_below (hc k hlt) hnx (rangeAt_ltG EMsg (hc k hlt)) : wr.rangeAt b (off + k * 13) (EMsg.L x))
      have hs := HT2.out k hlt
      rw [← hx] at hs
      obtain ⟨v, hv⟩ : ∃ v, vmsg x = v := ⟨_, rfl⟩
      have HV := Lib.hid (fun W => (by have := spec_validMessage x W hs; rwa [hv] at this : Calls Try.prog 80 #[.agg #[.int .i64 x.o.i, .int .i64 x.o.j, .int .i64 x.o.k, .int .i64 x.o.ts, .int .i64 x.o.ta, .int .i64 x.o.fs, .int .i64 x.o.fa, .int .i64 x.o.ns, .int .i64 x.o.na, .int .i64 x.o.v, .bool x.o.en, .string x.o.tx, .int .i64 x.p]] W fun e w' => e = .returned (.bool v) ∧ Below W.heap.size W w'))
      have HVM := Lib.hid (by rw [← hx]; exact hv : vmsg (ms.getD k zMsg) = v)
      have HX := Lib.hid hx
      have HCC := Lib.hid hc
      have HNX := Lib.hid hnx
      have hk0 : (0 : Int) ≤ (k : Int) := Int.natCast_nonneg _
      have hk1 : (k : Int) < (ms.length : Int) := by omega
      have HLT := Lib.hid hlt
      clear hx hs hv hc hnx hlt f0 f1
      cases v
      · go_wp2
        refine region_lit (C := fun W => Below wr.heap.size wr W) (by kernel_rfl) (by kernel_rfl) (Below.refl _ _).drew ?_
        repeat (
          first
            | (with_reducible refine quiet_iMsg rfl _ rfl rfl (fun W hW => rangeAt_below HRX.out hW (rangeAt_ltG EMsg HRX.out)) ?_)
            | (refine wpQuiet_step (fun K hK => ?_)
               go_simp
               first
                 | (refine hK _ ?_; clear hK K)
                 | (apply Exists.intro
                    refine ⟨fun W hW => ?_, hK _ ?_⟩
                    · have f2 := (hW.cell (p := ⟨w.heap.size, 2, none⟩) hzr).trans HF2.out
                      first
                        | (go_simp; exact rfl)
                        | (go_simp; exact ⟨rfl, rfl⟩)
                        | with_reducible exact (HV.out _).mono (fun e wn ⟨he, hbn⟩ => ⟨he, hW.trans (hbn.mono hW.size)⟩)
                        | with_reducible exact ⟨rfl, (HV.out _).mono (fun e wn ⟨he, hbn⟩ => ⟨he, hW.trans (hbn.mono hW.size)⟩)⟩
                    clear hK K)))
        refine wpQuiet_nil ?_
        intro W1 hW1
        have hB1 := HBR.out.trans (hW1.mono (Nat.le_of_lt hzr))
        clear f2
        go_wp2
        go_ret
        exact ⟨ret_bool (by rw [HVR.out, okm_bad HLT.out HVM.out]; rfl), hB1⟩
      · by_cases h0 : k = 0
        · have hkd : decide (0 < k) = false := by simp; omega
          have hkn : ¬ 0 < k := by omega
          have HK0 := Lib.hid h0
          clear h0
          go_wp2
          refine region_lit (C := fun W => Below wr.heap.size wr W) (by kernel_rfl) (by kernel_rfl) (Below.refl _ _).drew ?_
          repeat (
            first
              | (with_reducible refine quiet_iMsg rfl _ rfl rfl (fun W hW => rangeAt_below HRX.out hW (rangeAt_ltG EMsg HRX.out)) ?_)
              | (refine wpQuiet_step (fun K hK => ?_)
                 go_simp
                 first
                   | (refine hK _ ?_; clear hK K)
                   | (apply Exists.intro
                      refine ⟨fun W hW => ?_, hK _ ?_⟩
                      · have f2 := (hW.cell (p := ⟨w.heap.size, 2, none⟩) hzr).trans HF2.out
                        first
                          | (go_simp; exact rfl)
                          | (go_simp; exact ⟨rfl, rfl⟩)
                          | with_reducible exact (HV.out _).mono (fun e wn ⟨he, hbn⟩ => ⟨he, hW.trans (hbn.mono hW.size)⟩)
                          | with_reducible exact ⟨rfl, (HV.out _).mono (fun e wn ⟨he, hbn⟩ => ⟨he, hW.trans (hbn.mono hW.size)⟩)⟩
                      clear hK K)))
          refine wpQuiet_nil ?_
          intro W1 hW1
          have hB1 := HBR.out.trans (hW1.mono (Nat.le_of_lt hzr))
          clear f2
          go_wp2
          go_roundw
          case rel => exact ⟨k + 1, by have := HLT.out; omega, by go_num, ⟨by rw [okm_succ, hok.out.1, HVM.out]; rfl, by rw [HK0.out]; rfl⟩, HNX.out.trans (hW1.mono hzw)⟩
          case measure => have := HLT.out; simp [intOf]; omega
        · obtain ⟨m, hm⟩ : ∃ m, k = m + 1 := ⟨k - 1, by omega⟩
          have hw1 : IntKind.i64.wrap ((k : Int) - 1) = (m : Int) := by
            rw [wrapI _ (by omega) (by omega)]
            omega
          have hm0 : (0 : Int) ≤ (m : Int) := Int.natCast_nonneg _
          have hml : m < ms.length := by have := HLT.out; omega
          have hm1 : (m : Int) < (ms.length : Int) := by omega
          have hkd : decide (0 < k) = true := by simp; omega
          have hkn : 0 < k := by omega
          obtain ⟨q, hq⟩ : ∃ q, q = ms.getD m zMsg := ⟨_, rfl⟩
          have HRQ := Lib.hid (by rw [hq]; exact rangeAt_below (HCC.out m hml) HNX.out (rangeAt_ltG EMsg (HCC.out m hml)) : wr.rangeAt b (off + m * 13) (EMsg.L q))
          obtain ⟨l, hl⟩ : ∃ l, slt q.o.i q.o.j x.o.i x.o.j = l := ⟨_, rfl⟩
          have HLM := Lib.hid (by unfold lessM; rw [← hm, ← hq, ← HX.out]; exact hl : lessM ms m = l)
          have HL := Lib.hid (fun W => specLess q.o.i q.o.j x.o.i x.o.j l hl W)
          have HM := Lib.hid hm
          clear hq hl hm h0 hml
          cases l
          · go_wp2
            refine region_lit (C := fun W => Below wr.heap.size wr W) (by kernel_rfl) (by kernel_rfl) (Below.refl _ _).drew ?_
            repeat (
              first
                | (with_reducible refine quiet_iMsg rfl _ rfl rfl (fun W hW => rangeAt_below HRX.out hW (rangeAt_ltG EMsg HRX.out)) ?_)
                | (refine wpQuiet_step (fun K hK => ?_)
                   go_simp
                   first
                     | (refine hK _ ?_; clear hK K)
                     | (apply Exists.intro
                        refine ⟨fun W hW => ?_, hK _ ?_⟩
                        · have f2 := (hW.cell (p := ⟨w.heap.size, 2, none⟩) hzr).trans HF2.out
                          obtain ⟨x0, x1, x2, x3, x4, x5, x6, x7, x8, x9, x10, x11⟩ := c12 (msg_op (rangeAt_below HRX.out hW (rangeAt_ltG EMsg HRX.out)))
                          obtain ⟨y0, y1, y2, y3, y4, y5, y6, y7, y8, y9, y10, y11⟩ := c12 (msg_op (rangeAt_below HRQ.out hW (rangeAt_ltG EMsg HRQ.out)))
                          first
                            | (go_simp; exact rfl)
                            | (go_simp; exact ⟨rfl, rfl⟩)
                            | with_reducible exact (HV.out _).mono (fun e wn ⟨he, hbn⟩ => ⟨he, hW.trans (hbn.mono hW.size)⟩)
                            | with_reducible exact ⟨rfl, (HV.out _).mono (fun e wn ⟨he, hbn⟩ => ⟨he, hW.trans (hbn.mono hW.size)⟩)⟩
                            | with_reducible exact (HL.out _).mono (fun e wn ⟨he, hbn⟩ => ⟨he, hW.trans (hbn.mono hW.size)⟩)
                            | with_reducible exact ⟨rfl, (HL.out _).mono (fun e wn ⟨he, hbn⟩ => ⟨he, hW.trans (hbn.mono hW.size)⟩)⟩
                        clear hK K)))
            refine wpQuiet_nil ?_
            intro W1 hW1
            have hB1 := HBR.out.trans (hW1.mono (Nat.le_of_lt hzr))
            clear f2
            go_wp2
            go_ret
            exact ⟨ret_bool (by rw [HVR.out, asm_bad (by have := HLT.out; have := HM.out; omega) HLM.out]; simp), hB1⟩
          · go_wp2
            refine region_lit (C := fun W => Below wr.heap.size wr W) (by kernel_rfl) (by kernel_rfl) (Below.refl _ _).drew ?_
            repeat (
              first
                | (with_reducible refine quiet_iMsg rfl _ rfl rfl (fun W hW => rangeAt_below HRX.out hW (rangeAt_ltG EMsg HRX.out)) ?_)
                | (refine wpQuiet_step (fun K hK => ?_)
                   go_simp
                   first
                     | (refine hK _ ?_; clear hK K)
                     | (apply Exists.intro
                        refine ⟨fun W hW => ?_, hK _ ?_⟩
                        · have f2 := (hW.cell (p := ⟨w.heap.size, 2, none⟩) hzr).trans HF2.out
                          obtain ⟨x0, x1, x2, x3, x4, x5, x6, x7, x8, x9, x10, x11⟩ := c12 (msg_op (rangeAt_below HRX.out hW (rangeAt_ltG EMsg HRX.out)))
                          obtain ⟨y0, y1, y2, y3, y4, y5, y6, y7, y8, y9, y10, y11⟩ := c12 (msg_op (rangeAt_below HRQ.out hW (rangeAt_ltG EMsg HRQ.out)))
                          first
                            | (go_simp; exact rfl)
                            | (go_simp; exact ⟨rfl, rfl⟩)
                            | with_reducible exact (HV.out _).mono (fun e wn ⟨he, hbn⟩ => ⟨he, hW.trans (hbn.mono hW.size)⟩)
                            | with_reducible exact ⟨rfl, (HV.out _).mono (fun e wn ⟨he, hbn⟩ => ⟨he, hW.trans (hbn.mono hW.size)⟩)⟩
                            | with_reducible exact (HL.out _).mono (fun e wn ⟨he, hbn⟩ => ⟨he, hW.trans (hbn.mono hW.size)⟩)
                            | with_reducible exact ⟨rfl, (HL.out _).mono (fun e wn ⟨he, hbn⟩ => ⟨he, hW.trans (hbn.mono hW.size)⟩)⟩
                        clear hK K)))
            refine wpQuiet_nil ?_
            intro W1 hW1
            have hB1 := HBR.out.trans (hW1.mono (Nat.le_of_lt hzr))
            clear f2
            go_wp2
            go_roundw
            case rel => exact ⟨k + 1, by have := HLT.out; omega, by go_num, ⟨by rw [okm_succ, hok.out.1, HVM.out]; rfl, by have h := hok.out.2; have hm := HM.out; rw [show k + 1 - 1 = m + 1 by omega, asm_succ, show m = k - 1 by omega, h, show k - 1 = m by omega, HLM.out]; rfl⟩, HNX.out.trans (hW1.mono hzw)⟩
            case measure => have := HLT.out; simp [intOf]; omega
    · obtain rfl : k = ms.length := by omega
      have hvr := HVR.out
      rw [hok.out.1, hok.out.2] at hvr
      have HVR2 := Lib.hid hvr
      have HIN := Lib.hid (fun W => spec_inRange au 0 2 W)
      have HVL1 := Lib.hid (HVL.out wr HBR.out)
      clear hvr
      obtain ⟨r1, h1⟩ : ∃ r1, inR au 0 2 = r1 := ⟨_, rfl⟩
      obtain ⟨r2, h2⟩ : ∃ r2, vlog os = r2 := ⟨_, rfl⟩
      rw [h1] at HIN HVR2
      rw [h2] at HVL1 HVR2
      clear h1 h2 hnx hlt
      cases r1
      · go_wp2_with (go_at_call 81; refine (HIN.out _).mono ?_; rintro e w' ⟨rfl, rfl⟩)
        go_ret
        exact ⟨ret_bool (by rw [HVR2.out]; simp), HBR.out⟩
      · go_wp2_with (go_at_call 81; refine (HIN.out _).mono ?_; rintro e w' ⟨rfl, rfl⟩)
        refine HVL1.out.mono ?_
        rintro e w2 ⟨rfl, b2⟩
        have g2 := (b2.cell (p := ⟨w.heap.size, 2, none⟩) hzr).trans HF2.out
        have HBF := Lib.hid (HBR.out.trans (b2.mono (Nat.le_of_lt hzr)))
        clear f0 f1 f2
        cases r2
        · go_wp2
          go_ret
          exact ⟨ret_bool (by rw [HVR2.out]; simp), HBF.out⟩
        · by_cases h20 : ms.length ≤ 20
          · have h20' : (ms.length : Int) ≤ 20 := by omega
            have h20d : decide ((ms.length : Int) ≤ 20) = true := by simp; omega
            go_wp2
            go_ret
            exact ⟨ret_bool (by rw [HVR2.out]; simp; omega), HBF.out⟩
          · have h20' : ¬ (ms.length : Int) ≤ 20 := by omega
            have h20d : decide ((ms.length : Int) ≤ 20) = false := by simp; omega
            go_wp2
            go_ret
            exact ⟨ret_bool (by rw [HVR2.out]; simp; omega), HBF.out⟩

theorem spec_ValidReplica (au : Int) (a a2 : Option Addr) (c c2 : Nat) (os : List OpV) (ms : List MsgV) (w : World) (hr : RdO w a os) (hl : os.length ≤ 1048576) (ht : ∀ k, k < os.length → (os.getD k zop).tx.size ≤ maxLen)
    (hr2 : RdG EMsg w a2 ms) (hl2 : ms.length ≤ 1048576) (ht2 : ∀ k, k < ms.length → (ms.getD k zMsg).o.tx.size ≤ maxLen) :
    Calls Try.prog 24 #[.agg #[.int .i64 au, .slice a os.length c, .slice a2 ms.length c2]] w fun e w' => e = .returned (.bool (vrep au os ms)) ∧ Below w.heap.size w w' := by
  have HV := Lib.hid (fun W (hW : Below w.heap.size w W) => spec_validReplica au a a2 c c2 os ms W (RdO.below hr hW) hl ht (hr2.below hW) hl2 ht2)
  have HB := Lib.hid ((Below.refl w.heap.size w).alloc (Nat.le_refl _) (.cells #[.int .i64 au, .slice a os.length c, .slice a2 ms.length c2] 50))
  clear hr hr2 ht ht2
  go_enter Try.func24, Try.ntmps24
  go_wp2_with fail
  refine (HV.out _ HB.out).mono ?_
  rintro e w1 ⟨rfl, b1⟩
  go_wp2
  go_ret
  exact ⟨rfl, HB.out.trans (b1.mono HB.out.size)⟩

end Go.Proofs.Ytdbnflgckcjlcaa.MsE
