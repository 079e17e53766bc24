/-
  ValidReplica of the program: contract. For logs and messages that read as lists of at most 2^20.
-/
import Derived.Test.YtdbnflgckcjlcaaMsD
import Derived.Test.YtdbnflgckcjlcaaK2
import Derived.Test.YtdbnflgckcjlcaaK5
import Derived.Laws.EntriesVeiled
import Derived.Outline
namespace Go.Proofs.Ytdbnflgckcjlcaa.MsF
open Go.RowKit Go.Proofs.Ytdbnflgckcjlcaa.Base Go.Proofs.Ytdbnflgckcjlcaa.St Go.Proofs.Ytdbnflgckcjlcaa.StB Go.Proofs.Ytdbnflgckcjlcaa.OpA Go.Proofs.Ytdbnflgckcjlcaa.OpW Go.Proofs.Ytdbnflgckcjlcaa.OpB Go.Proofs.Ytdbnflgckcjlcaa.OpT Go.Proofs.Ytdbnflgckcjlcaa.LgA Go.Proofs.Ytdbnflgckcjlcaa.LgB Go.Proofs.Ytdbnflgckcjlcaa.LgC Go.Proofs.Ytdbnflgckcjlcaa.LgD Go.Proofs.Ytdbnflgckcjlcaa.LgF Go.Proofs.Ytdbnflgckcjlcaa.LgG Go.Proofs.Ytdbnflgckcjlcaa.LgH Go.Proofs.Ytdbnflgckcjlcaa.LgI Go.Proofs.Ytdbnflgckcjlcaa.MsA Go.Proofs.Ytdbnflgckcjlcaa.MsB Go.Proofs.Ytdbnflgckcjlcaa.MsC Go.Proofs.Ytdbnflgckcjlcaa.MsD
open Go.Proofs.Ytdbnflgckcjlcaa.GsA (Elt RdG OwnG RdG.below rangeAt_ltG)
set_option linter.unusedVariables false
attribute [local go_sem ↓] Go.wp_at_zero Go.wp_at_succ
attribute [local irreducible] Go.wpQuiet

set_option maxRecDepth 100000 in
set_option maxHeartbeats 4000000 in
theorem impl_ValidReplica (au : Int) (a a2 : Option Addr) (c c2 : Nat) (os : List OpV) (ms : List MsgV) (w : World) (hr : RdO w a os) (hl : os.length ≤ 1048576) (ht : ∀ k, k < os.length → (os.getD k zop).tx.size ≤ maxLen)
    (hr2 : RdG EMsg w a2 ms) (hl2 : ms.length ≤ 1048576) (ht2 : ∀ k, k < ms.length → (ms.getD k zMsg).o.tx.size ≤ maxLen) :
    Calls Try.prog 26 #[.agg #[.int .i64 au, .slice a os.length c, .slice a2 ms.length c2]] w fun e w' => e = .returned (.bool (vrep au os ms)) ∧ Below w.heap.size w w' := by
  obtain ⟨w0, hw0⟩ : ∃ w0, w0 = w.alloc (.cells #[.int .i64 au, .slice a os.length c, .slice a2 ms.length c2] 50) := ⟨_, rfl⟩
  have hz : w.heap.size < w0.heap.size := by rw [hw0]; simp
  have hB : Below w.heap.size w w0 := by rw [hw0]; exact (Below.refl _ _).alloc (Nat.le_refl _) _
  have HE := Lib.hid (by rw [hw0]; simp [go_sem] : w0.cell? ⟨w.heap.size, 0, none⟩ = some (.int .i64 au) ∧ w0.cell? ⟨w.heap.size, 1, none⟩ = some (.slice a os.length c) ∧ w0.cell? ⟨w.heap.size, 2, none⟩ = some (.slice a2 ms.length c2))
  have HR2 := Lib.hid (hr2.below hB)
  have HVL := Lib.hid (fun W (hW : Below w.heap.size w W) => impl_ValidLog ivop a c os W (RdO.below hr hW) hl ht)
  have HT2 := Lib.hid ht2
  have HB := Lib.hid hB
  have HZ := Lib.hid hz
  have HW := Lib.hid hw0
  have hvr : vrep au os ms = ((okm ms ms.length && asm ms (ms.length - 1)) && (inR au 0 2 && (vlog os && decide (ms.length ≤ 20)))) := rfl
  have HVR := Lib.hid hvr
  obtain ⟨rv, hrv⟩ : ∃ rv, vrep au os ms = rv := ⟨_, rfl⟩
  rw [hrv]
  rw [hrv] at HVR
  clear hr hr2 ht ht2 hB hz hw0 hvr hrv
  have HAS := Lib.hid (fun W (hW : Below w0.heap.size w0 W) => ascendingM a2 c2 ms W (HR2.out.below hW) hl2)
  obtain ⟨c0, c1, c2'⟩ := HE.out
  go_enter Try.func26, Try.ntmps26
  go_wp2_with (rw [← HW.out])
  go_loopw [8] (fun i wr => ∃ k : Nat, k ≤ ms.length ∧ i = .int .i64 k ∧ Hid (okm ms k = true) ∧ Below w0.heap.size w0 wr) (fun i _ => ms.length - (intOf i).toNat)
  case atStart => exact ⟨0, Nat.zero_le _, rfl, rfl, Below.refl _ _⟩
  case round =>
    obtain ⟨k, hk, rfl, hok, hnx⟩ := hrel
    have hzw : w0.heap.size ≤ wr.heap.size := hnx.size
    have hzr : w.heap.size < wr.heap.size := Nat.lt_of_lt_of_le HZ.out hzw
    have HBR := Lib.hid (HB.out.trans (hnx.mono (Nat.le_of_lt HZ.out)))
    clear c0 c1 c2'
    by_cases hlt : k < ms.length
    · rcases HR2.out with h0 | ⟨b, off, rfl, hc⟩
      · rw [h0] at hlt; exact absurd hlt (by simp)
      obtain ⟨x, hx⟩ : ∃ x, x = ms.getD k zMsg := ⟨_, rfl⟩
      have HRX := Lib.hid (by rw [hx]; exact rangeAt_below (hc k hlt) hnx (rangeAt_ltG EMsg (hc k hlt)) : wr.rangeAt b (off + k * 13) (EMsg.L x))
      have hs := HT2.out k hlt
      rw [← hx] at hs
      obtain ⟨v, hv⟩ : ∃ v, vmsg x = v := ⟨_, rfl⟩
      have HV := Lib.hid (fun W => (by have := impl_valid x W hs; rwa [hv] at this : Calls Try.prog 54 #[.agg #[.int .i64 x.o.i, .int .i64 x.o.j, .int .i64 x.o.k, .int .i64 x.o.ts, .int .i64 x.o.ta, .int .i64 x.o.fs, .int .i64 x.o.fa, .int .i64 x.o.ns, .int .i64 x.o.na, .int .i64 x.o.v, .bool x.o.en, .string x.o.tx, .int .i64 x.p]] W fun e w' => e = .returned (.bool v) ∧ Below W.heap.size W w'))
      have HVM := Lib.hid (by rw [← hx]; exact hv : vmsg (ms.getD k zMsg) = v)
      have HNX := Lib.hid hnx
      have hk0 : (0 : Int) ≤ (k : Int) := Int.natCast_nonneg _
      have hk1 : (k : Int) < (ms.length : Int) := by omega
      have HLT := Lib.hid hlt
      have HBM := Lib.hid (boxM_new wr #[.int .i64 0, .int .i64 0, .int .i64 0, .int .i64 0, .int .i64 0, .int .i64 0, .int .i64 0, .int .i64 0, .int .i64 0, .int .i64 0, .bool false, .string ⟨#[]⟩, .int .i64 0] zMsg rfl)
      clear hx hs hv hc hnx hlt
      cases v
      · go_wp2_with (first
          | (refine load_iMsg rfl _ rfl rfl HRX.out ?_)
          | (refine storeM (v := x) rfl _ _ rfl rfl rfl HBM.out ?_
             intro w3 hb3 o3
             have HX3 := Lib.hid (boxM_at hb3)
             have HB3 := Lib.hid (((Below.refl wr.heap.size wr).alloc (Nat.le_refl _) _).trans o3.2.2)
             clear hb3 o3)
          | (refine load_iMsg rfl _ rfl rfl HX3.out ?_))
        refine (HV.out _).mono ?_
        rintro e w4 ⟨rfl, b4⟩
        have hB4 := HBR.out.trans ((HB3.out.trans (b4.mono HB3.out.size)).mono (Nat.le_of_lt hzr))
        go_wp2
        go_ret
        exact ⟨ret_bool (by rw [HVR.out, okm_bad HLT.out HVM.out]; rfl), hB4⟩
      · go_wp2_with (first
          | (refine load_iMsg rfl _ rfl rfl HRX.out ?_)
          | (refine storeM (v := x) rfl _ _ rfl rfl rfl HBM.out ?_
             intro w3 hb3 o3
             have HX3 := Lib.hid (boxM_at hb3)
             have HB3 := Lib.hid (((Below.refl wr.heap.size wr).alloc (Nat.le_refl _) _).trans o3.2.2)
             clear hb3 o3)
          | (refine load_iMsg rfl _ rfl rfl HX3.out ?_))
        refine (HV.out _).mono ?_
        rintro e w4 ⟨rfl, b4⟩
        have hB4 := HNX.out.trans ((HB3.out.trans (b4.mono HB3.out.size)).mono hzw)
        go_wp2
        go_roundw
        case rel => exact ⟨k + 1, by have := HLT.out; omega, by go_num, (by rw [okm_succ, hok.out, HVM.out]; rfl : okm ms (k + 1) = true), hB4⟩
        case measure => have := HLT.out; simp [intOf]; omega
    · obtain rfl : k = ms.length := by omega
      have f0 := (hnx.cell (p := ⟨w.heap.size, 0, none⟩) HZ.out).trans HE.out.1
      have f1 := (hnx.cell (p := ⟨w.heap.size, 1, none⟩) HZ.out).trans HE.out.2.1
      have hf2 := (hnx.cell (p := ⟨w.heap.size, 2, none⟩) HZ.out).trans HE.out.2.2
      have HF2 := Lib.hid hf2
      have hvr := HVR.out
      rw [hok.out] at hvr
      have HVR2 := Lib.hid hvr
      have HIN := Lib.hid (fun W => impl_isAuthor au W)
      have HVL1 := Lib.hid (HVL.out wr HBR.out)
      have HNX := Lib.hid hnx
      clear hvr
      obtain ⟨r1, h1⟩ : ∃ r1, inR au 0 2 = r1 := ⟨_, rfl⟩
      obtain ⟨r2, h2⟩ : ∃ r2, vlog os = r2 := ⟨_, rfl⟩
      obtain ⟨r3, h3⟩ : ∃ r3, asm ms (ms.length - 1) = r3 := ⟨_, rfl⟩
      rw [h1] at HIN HVR2
      rw [h2] at HVL1 HVR2
      rw [h3] at HAS HVR2
      clear h1 h2 h3 hnx hlt hf2
      cases r1
      · go_wp2_with (go_at_call 55; refine (HIN.out _).mono ?_; rintro e w' ⟨rfl, rfl⟩)
        go_ret
        exact ⟨ret_bool (by rw [HVR2.out]; simp), HBR.out⟩
      · go_wp2_with (go_at_call 55; refine (HIN.out _).mono ?_; rintro e w' ⟨rfl, rfl⟩)
        refine HVL1.out.mono ?_
        rintro e w2 ⟨rfl, b2⟩
        have g2 := (b2.cell (p := ⟨w.heap.size, 2, none⟩) hzr).trans HF2.out
        have HBF := Lib.hid (HBR.out.trans (b2.mono (Nat.le_of_lt hzr)))
        have HN2 := Lib.hid (HNX.out.trans (b2.mono hzw))
        clear f0 f1
        cases r2
        · go_wp2
          go_ret
          exact ⟨ret_bool (by rw [HVR2.out]; simp), HBF.out⟩
        · by_cases h20 : ms.length ≤ 20
          · have h20' : (ms.length : Int) ≤ 20 := by omega
            have h20d : decide ((ms.length : Int) ≤ 20) = true := by simp; omega
            go_wp2_with fail
            refine (messageSet _ _ _ _).mono ?_
            rintro e w3 ⟨rfl, b3⟩
            have HN3 := Lib.hid (HN2.out.trans (b3.mono HN2.out.size))
            have HB3 := Lib.hid (HBF.out.trans (b3.mono HBF.out.size))
            clear g2
            go_wp2_with fail
            refine (HAS.out _ HN3.out).mono ?_
            rintro e w4 ⟨rfl, b4⟩
            have HB4 := Lib.hid (HB3.out.trans (b4.mono HB3.out.size))
            have HD := Lib.hid h20
            cases r3
            · go_wp2
              go_ret
              exact ⟨ret_bool (by rw [HVR2.out]; simp), HB4.out⟩
            · go_wp2
              go_ret
              exact ⟨ret_bool (by rw [HVR2.out]; have := HD.out; simp; omega), HB4.out⟩
          · have h20' : ¬ (ms.length : Int) ≤ 20 := by omega
            have h20d : decide ((ms.length : Int) ≤ 20) = false := by simp; omega
            have HD := Lib.hid h20
            go_wp2
            go_ret
            exact ⟨ret_bool (by rw [HVR2.out]; have := HD.out; simp; omega), HBF.out⟩

end Go.Proofs.Ytdbnflgckcjlcaa.MsF
