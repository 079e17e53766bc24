/-
  ValidLog of the program: its contract, out of ValidOp's. For slices that read as a list of at most 2^20 operations.
-/
import Derived.Test.YtkkeaimoplkliaaLgG
namespace Go.Proofs.Ytkkeaimoplkliaa.LgH
open Go.RowKit Go.Proofs.Ytkkeaimoplkliaa.Base Go.Proofs.Ytkkeaimoplkliaa.St Go.Proofs.Ytkkeaimoplkliaa.StB Go.Proofs.Ytkkeaimoplkliaa.OpA Go.Proofs.Ytkkeaimoplkliaa.OpW Go.Proofs.Ytkkeaimoplkliaa.OpB Go.Proofs.Ytkkeaimoplkliaa.OpT Go.Proofs.Ytkkeaimoplkliaa.LgA Go.Proofs.Ytkkeaimoplkliaa.LgB Go.Proofs.Ytkkeaimoplkliaa.LgC Go.Proofs.Ytkkeaimoplkliaa.LgD Go.Proofs.Ytkkeaimoplkliaa.LgF Go.Proofs.Ytkkeaimoplkliaa.LgG
set_option linter.unusedVariables false

theorem ascTo_bad' {os : List OpV} (h : ascTo os (os.length - 1) = false) : vlog os = false := by simp [vlog, h]

set_option maxRecDepth 100000 in
set_option maxHeartbeats 1000000 in
theorem impl_ValidLog (HV : IVop) (a : Option Addr) (c : Nat) (os : List OpV) (w : World) (hr : RdO w a os) (hl : os.length ≤ 1048576) (ht : ∀ k, k < os.length → (os.getD k zop).tx.size ≤ maxLen) :
    Calls Try.prog 22 #[.slice a os.length c] w fun e w' => e = .returned (.bool (vlog os)) ∧ Below w.heap.size w w' := by
  have HT := Lib.hid ht
  clear ht
  have HRD := Lib.hid hr
  rcases hr with rfl | ⟨b, off, rfl, hc⟩
  · have HRW := Lib.hid (fun w' (hb : Below w.heap.size w w') => ascending a c [] w' (HRD.out.below hb) (by simp))
    go_enter Try.func22, Try.ntmps22
    go_wp2
    refine wp_loop_rounds 1 ?_
    rw [rounds_succ]
    go_wp2_with fail
    refine (opSet _ _ _ _).mono ?_
    rintro e w1 ⟨rfl, hb1⟩
    go_wp2_with fail
    refine (HRW.out _ hb1).mono ?_
    rintro e w2 ⟨rfl, hb2⟩
    go_wp2
    go_ret
    exact ⟨ret_bool (by decide), hb1.trans (hb2.mono hb1.size)⟩
  · have HC := Lib.hid hc
    clear hc
    go_enter Try.func22, Try.ntmps22
    go_wp2
    go_loopw [7] (fun i wr => ∃ k : Nat, k ≤ os.length ∧ i = .int .i64 k ∧ Hid (allTo os k = true) ∧ Below w.heap.size w wr) (fun i _ => os.length - (intOf i).toNat)
    case atStart => exact ⟨0, Nat.zero_le _, rfl, rfl, Below.refl _ _⟩
    case round =>
      obtain ⟨k, hk, rfl, hok, hnx⟩ := hrel
      by_cases hlt : k < os.length
      · obtain ⟨o, ho⟩ : ∃ o, o = os.getD k zop := ⟨_, rfl⟩
        have HR := Lib.hid (by rw [ho]; exact rangeAt_below (HC.out k hlt) hnx (rangeAt_lt (HC.out k hlt)) : wr.rangeAt b (off + k * 12) (opL o))
        have HO := Lib.hid ho
        clear ho
        have hs : o.tx.size ≤ maxLen := by rw [HO.out]; exact HT.out k hlt
        have HS := Lib.hid hs
        clear hs
        obtain ⟨v, hv⟩ : ∃ v, vop o = v := ⟨_, rfl⟩
        have HV1 := Lib.hid (fun w => HV o w HS.out)
        rw [hv] at HV1
        have HVO := Lib.hid hv
        clear hv
        cases v
        all_goals
          go_wp2_with (refine loadI rfl _ rfl rfl HR.out ?_)
          refine (HV1.out _).mono ?_
          rintro e w1 ⟨rfl, hb1⟩
          have hB1 := (((Below.refl wr.heap.size wr).alloc (Nat.le_refl _) _).trans (hb1.mono (by simp)))
          go_wp2
        · go_ret
          refine ⟨ret_bool ?_, hnx.trans (hB1.mono hnx.size)⟩
          have h := HVO.out
          rw [HO.out] at h
          rw [allTo_bad hlt h]
        · go_roundw
          case rel => exact ⟨k + 1, by omega, by go_num, by show allTo os (k + 1) = true; rw [allTo_succ, hok.out, ← HO.out, HVO.out]; rfl, hnx.trans (hB1.mono hnx.size)⟩
          case measure => simp [intOf]; omega
      · obtain rfl : k = os.length := by omega
        have hA := hok.out
        have HOK := Lib.hid hA
        clear hA hok
        by_cases h40 : os.length ≤ 40
        · have h40' : (os.length : Int) ≤ 40 := by omega
          obtain ⟨v, hv⟩ : ∃ v, ascTo os (os.length - 1) = v := ⟨_, rfl⟩
          have HRW := Lib.hid (fun w' (hb : Below w.heap.size w w') => ascending (some ⟨b, off, none⟩) c os w' (HRD.out.below hb) hl)
          rw [hv] at HRW
          have HV2 := Lib.hid hv
          clear hv
          go_wp2_with fail
          refine (opSet _ _ _ _).mono ?_
          rintro e w1 ⟨rfl, hb1⟩
          have hB1 := hnx.trans (hb1.mono hnx.size)
          go_wp2_with fail
          refine (HRW.out _ hB1).mono ?_
          rintro e w2 ⟨rfl, hb2⟩
          go_wp2
          go_ret
          refine ⟨ret_bool ?_, hB1.trans (hb2.mono hB1.size)⟩
          have h2 := HV2.out
          rw [vlog, HOK.out, h2]
          simp [h40]
        · have h40' : ¬ (os.length : Int) ≤ 40 := by omega
          go_wp2
          go_ret
          refine ⟨ret_bool ?_, hnx⟩
          simp [vlog, h40]

end Go.Proofs.Ytkkeaimoplkliaa.LgH
