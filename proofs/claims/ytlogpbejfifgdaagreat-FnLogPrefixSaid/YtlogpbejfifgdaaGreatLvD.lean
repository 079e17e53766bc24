/-
  The walk of the law FnLogPrefix: it returns true, whatever the bytes. No condition.
-/
import Derived.Test.YtlogpbejfifgdaaGreatLvB
namespace Go.Proofs.YtlogpbejfifgdaaGreat.LvD
open Go.RowKit Go.Proofs.YtlogpbejfifgdaaGreat.Base Go.Proofs.YtlogpbejfifgdaaGreat.St Go.Proofs.YtlogpbejfifgdaaGreat.StB Go.Proofs.YtlogpbejfifgdaaGreat.Vec Go.Proofs.YtlogpbejfifgdaaGreat.Row Go.Proofs.YtlogpbejfifgdaaGreat.RowB Go.Proofs.YtlogpbejfifgdaaGreat.RowC Go.Proofs.YtlogpbejfifgdaaGreat.VecA Go.Proofs.YtlogpbejfifgdaaGreat.VecD Go.Proofs.YtlogpbejfifgdaaGreat.OpA Go.Proofs.YtlogpbejfifgdaaGreat.OpB Go.Proofs.YtlogpbejfifgdaaGreat.LgA Go.Proofs.YtlogpbejfifgdaaGreat.LgB Go.Proofs.YtlogpbejfifgdaaGreat.LgC Go.Proofs.YtlogpbejfifgdaaGreat.LgF Go.Proofs.YtlogpbejfifgdaaGreat.LgH Go.Proofs.YtlogpbejfifgdaaGreat.LgI Go.Proofs.YtlogpbejfifgdaaGreat.LgP Go.Proofs.YtlogpbejfifgdaaGreat.LgQ Go.Proofs.YtlogpbejfifgdaaGreat.LgS Go.Proofs.YtlogpbejfifgdaaGreat.LgT Go.Proofs.YtlogpbejfifgdaaGreat.LgW Go.Proofs.YtlogpbejfifgdaaGreat.LgX Go.Proofs.YtlogpbejfifgdaaGreat.LgZ Go.Proofs.YtlogpbejfifgdaaGreat.LhA Go.Proofs.YtlogpbejfifgdaaGreat.LhB Go.Proofs.YtlogpbejfifgdaaGreat.LhD Go.Proofs.YtlogpbejfifgdaaGreat.RdA Go.Proofs.YtlogpbejfifgdaaGreat.RdB Go.Proofs.YtlogpbejfifgdaaGreat.RdD Go.Proofs.YtlogpbejfifgdaaGreat.RfC Go.Proofs.YtlogpbejfifgdaaGreat.VdA Go.Proofs.YtlogpbejfifgdaaGreat.VdC Go.Proofs.YtlogpbejfifgdaaGreat.LvA Go.Proofs.YtlogpbejfifgdaaGreat.MoC Go.Proofs.YtlogpbejfifgdaaGreat.LvB
set_option linter.unusedVariables false

set_option maxRecDepth 100000 in
set_option maxHeartbeats 4000000 in
theorem walk (a0 : Option Addr) (len0 cap0 : Nat) (z0 : List Int) (w : World) (r0 : IsRow .u8 w a0 len0 cap0 z0) :
    Calls Tryz.prog 4 #[.slice a0 len0 cap0] w fun e w' => e = .returned (.bool true) ∧ Below w.heap.size w w' := by
  obtain ⟨xs, rfl, hx, rx⟩ := bytes_rd r0
  clear r0
  by_cases l0 : (1048576 : Int) < (xs.length : Int)
  · clear rx
    go_enter Tryz.func4, Tryz.ntmps4
    go_wp2
    go_ret
    exact ⟨rfl, Below.refl _ _⟩
  have HD := Lib.hid (drawPrefix a0 cap0 xs w rx hx)
  clear rx hx
  go_enter Tryz.func4, Tryz.ntmps4
  go_wp2_with fail
  refine HD.out.mono ?_
  rintro e w1 ⟨⟨A, c, os, B, d, zs, rfl, hrow, hv, hlen, hvl, ht⟩, b1⟩
  have htm : ∀ k, k < os.length → (os.getD k zop).tx.size ≤ maxLen := fun k hk => by have := ht k hk; unfold maxLen; omega
  have hol : os.length ≤ 1048576 := by omega
  have HB1 := Lib.hid b1
  have hz1 := b1.size
  have HA_1 := Lib.hid hrow
  have HZ_1 := Lib.hid hv
  have hzl : zs.length ≤ 1048576 := by omega
  have hP := fun W (h : RdO W A os) (h' : Rd W B zs) => impl_LogPrefix A B c d os zs W h h' hol hzl htm
  have hM := fun W (h : RdO W A os) (h' : Rd W B zs) => impl_LogMissing A B c d os zs W h h' hol hzl htm
  have hSP := fun W (h : RdO W A os) (h' : Rd W B zs) => spec_LogPrefix A B c d os zs W h h' hol hzl htm
  have hSM := fun W (h : RdO W A os) (h' : Rd W B zs) => spec_LogMissing A B c d os zs W h h' hol hzl htm
  have hV := fun W (h : RdO W A os) => impl_ValidLog ivop A c os W h hol htm
  have hVV := fun W (h : Rd W B zs) => impl_ValidVector B d zs W h hzl
  have HVC := Lib.hid (fun s t W (h : Rd W B zs) => impl_VectorContains B d zs s t W h hzl)
  have HEO := Lib.hid (fun a2 c2 W (h : RdO W a2 os) (h' : RdO W A os) => equalLogs a2 A c2 c os W h h' hol)
  have hSl := pfx_len os zs hol
  have hUl := mis_len os zs hol
  have hEP := fun a b c d W (h : RdO W a (pfx os zs)) (h' : RdO W b (pfx os zs)) => equalLogs a b c d (pfx os zs) W h h' hSl
  have hEM := fun a b c d W (h : RdO W a (mis os zs)) (h' : RdO W b (mis os zs)) => equalLogs a b c d (mis os zs) W h h' hUl
  have hMg := fun a b c d W (h : RdO W a (pfx os zs)) (h' : RdO W b (mis os zs)) (hc : (pfx os zs).length ≤ c) => impl_LogMerge a b c d (pfx os zs) (mis os zs) W h h' hSl hUl hc (pfx_short zs htm) (mis_short zs htm)
  have hLV := fun a c W (h : RdO W a (pfx os zs)) => impl_LogVector a c (pfx os zs) W h hSl (pfx_short zs htm)
  have hLE := fun a c W (h : Rd W a (lvec (pfx os zs))) (h' : Rd W B zs) => impl_VectorLessEqual a B c d (lvec (pfx os zs)) zs W h h' (lvec_len _) hzl
  obtain ⟨ok, hok⟩ : ∃ ok, vlog os = ok := ⟨_, rfl⟩
  obtain ⟨ov, hov⟩ : ∃ ov, vv zs = ov := ⟨_, rfl⟩
  rw [hok] at hV
  rw [hov] at hVV
  have HLaw := Lib.hid (fun (h : ok = true) (h' : ov = true) => prefix_law (os := os) (zs := zs) (by rw [hok]; exact h) (by rw [hov]; exact h'))
  obtain ⟨S, hS⟩ : ∃ S, S = pfx os zs := ⟨_, rfl⟩
  obtain ⟨U, hU⟩ : ∃ U, U = mis os zs := ⟨_, rfl⟩
  rw [← hS] at hP hSP hEP hMg hLV hLE HLaw hSl
  rw [← hU] at hM hSM hEM hMg HLaw
  have HP := Lib.hid hP
  have HM := Lib.hid hM
  have HSP := Lib.hid hSP
  have HSM := Lib.hid hSM
  have HV := Lib.hid hV
  have HVV := Lib.hid hVV
  have HEP := Lib.hid hEP
  have HEM := Lib.hid hEM
  have HMg := Lib.hid hMg
  have HLV := Lib.hid hLV
  have HLE := Lib.hid hLE
  clear hP hM hSP hSM hV hVV hEP hEM hMg hLV hLE hS hU hok hov hrow hv ht htm HD l0 b1 hol hzl hUl hlen hvl
  go_wp2_with fail
  refine (HP.out _ HA_1.out HZ_1.out).mono ?_
  rintro e w2 ⟨aS, cS, rfl, rowS, b2⟩
  have HB2 := Lib.hid (HB1.out.trans (b2.mono hz1))
  have hz2 := HB2.out.size
  have HA_2 := Lib.hid (RdO.below HA_1.out b2)
  have HZ_2 := Lib.hid (Rd.below HZ_1.out b2)
  clear HB1 hz1 b2 HA_1 HZ_1
  have hcapS := rowO_cap rowS
  have HS_2 := Lib.hid rowS.rd
  clear rowS
  go_wp2_with fail
  refine (HM.out _ HA_2.out HZ_2.out).mono ?_
  rintro e w3 ⟨aU, cU, rfl, rowU, b3⟩
  have HB3 := Lib.hid (HB2.out.trans (b3.mono hz2))
  have hz3 := HB3.out.size
  have HA_3 := Lib.hid (RdO.below HA_2.out b3)
  have HZ_3 := Lib.hid (Rd.below HZ_2.out b3)
  have HS_3 := Lib.hid (RdO.below HS_2.out b3)
  clear HB2 hz2 b3 HA_2 HZ_2 HS_2
  have hcapU := rowO_cap rowU
  have HU_3 := Lib.hid rowU.rd
  clear rowU
  go_wp2_with fail
  refine (HSP.out _ HA_3.out HZ_3.out).mono ?_
  rintro e w4 ⟨aT, cT, rfl, rowT, b4⟩
  have HB4 := Lib.hid (HB3.out.trans (b4.mono hz3))
  have hz4 := HB4.out.size
  have HA_4 := Lib.hid (RdO.below HA_3.out b4)
  have HZ_4 := Lib.hid (Rd.below HZ_3.out b4)
  have HS_4 := Lib.hid (RdO.below HS_3.out b4)
  have HU_4 := Lib.hid (RdO.below HU_3.out b4)
  clear HB3 hz3 b4 HA_3 HZ_3 HS_3 HU_3
  have hcapT := rowO_cap rowT
  have HT_4 := Lib.hid rowT.rd
  clear rowT
  go_wp2_with fail
  refine (HEP.out _ _ _ _ _ HS_4.out HT_4.out).mono ?_
  rintro e w5 ⟨rfl, b5⟩
  have HB5 := Lib.hid (HB4.out.trans (b5.mono hz4))
  have hz5 := HB5.out.size
  have HA_5 := Lib.hid (RdO.below HA_4.out b5)
  have HZ_5 := Lib.hid (Rd.below HZ_4.out b5)
  have HS_5 := Lib.hid (RdO.below HS_4.out b5)
  have HU_5 := Lib.hid (RdO.below HU_4.out b5)
  have HT_5 := Lib.hid (RdO.below HT_4.out b5)
  clear HB4 hz4 b5 HA_4 HZ_4 HS_4 HU_4 HT_4
  clear HT_5
  go_wp2_with fail
  refine (HSM.out _ HA_5.out HZ_5.out).mono ?_
  rintro e w6 ⟨aT, cT, rfl, rowT, b6⟩
  have HB6 := Lib.hid (HB5.out.trans (b6.mono hz5))
  have hz6 := HB6.out.size
  have HA_6 := Lib.hid (RdO.below HA_5.out b6)
  have HZ_6 := Lib.hid (Rd.below HZ_5.out b6)
  have HS_6 := Lib.hid (RdO.below HS_5.out b6)
  have HU_6 := Lib.hid (RdO.below HU_5.out b6)
  clear HB5 hz5 b6 HA_5 HZ_5 HS_5 HU_5
  have hcapT := rowO_cap rowT
  have HT_6 := Lib.hid rowT.rd
  clear rowT
  go_wp2_with fail
  refine (HEM.out _ _ _ _ _ HU_6.out HT_6.out).mono ?_
  rintro e w7 ⟨rfl, b7⟩
  have HB7 := Lib.hid (HB6.out.trans (b7.mono hz6))
  have hz7 := HB7.out.size
  have HA_7 := Lib.hid (RdO.below HA_6.out b7)
  have HZ_7 := Lib.hid (Rd.below HZ_6.out b7)
  have HS_7 := Lib.hid (RdO.below HS_6.out b7)
  have HU_7 := Lib.hid (RdO.below HU_6.out b7)
  have HT_7 := Lib.hid (RdO.below HT_6.out b7)
  clear HB6 hz6 b7 HA_6 HZ_6 HS_6 HU_6 HT_6
  clear HT_7
  go_wp2_with fail
  refine (HV.out _ HA_7.out).mono ?_
  rintro e w8 ⟨rfl, b8⟩
  have HB8 := Lib.hid (HB7.out.trans (b8.mono hz7))
  have hz8 := HB8.out.size
  have HA_8 := Lib.hid (RdO.below HA_7.out b8)
  have HZ_8 := Lib.hid (Rd.below HZ_7.out b8)
  have HS_8 := Lib.hid (RdO.below HS_7.out b8)
  have HU_8 := Lib.hid (RdO.below HU_7.out b8)
  clear HB7 hz7 b8 HA_7 HZ_7 HS_7 HU_7
  cases ok
  · skip
    go_wp2_with fail
    refine (HSP.out _ HA_8.out HZ_8.out).mono ?_
    rintro e w9 ⟨aT, cT, rfl, rowT, b9⟩
    have HB9 := Lib.hid (HB8.out.trans (b9.mono hz8))
    have hz9 := HB9.out.size
    have HA_9 := Lib.hid (RdO.below HA_8.out b9)
    have HZ_9 := Lib.hid (Rd.below HZ_8.out b9)
    have HS_9 := Lib.hid (RdO.below HS_8.out b9)
    have HU_9 := Lib.hid (RdO.below HU_8.out b9)
    clear HB8 hz8 b9 HA_8 HZ_8 HS_8 HU_8
    have hcapT := rowO_cap rowT
    have HT_9 := Lib.hid rowT.rd
    clear rowT
    go_wp2_with fail
    refine (HEP.out _ _ _ _ _ HS_9.out HT_9.out).mono ?_
    rintro e w10 ⟨rfl, b10⟩
    have HB10 := Lib.hid (HB9.out.trans (b10.mono hz9))
    have hz10 := HB10.out.size
    have HA_10 := Lib.hid (RdO.below HA_9.out b10)
    have HZ_10 := Lib.hid (Rd.below HZ_9.out b10)
    have HS_10 := Lib.hid (RdO.below HS_9.out b10)
    have HU_10 := Lib.hid (RdO.below HU_9.out b10)
    have HT_10 := Lib.hid (RdO.below HT_9.out b10)
    clear HB9 hz9 b10 HA_9 HZ_9 HS_9 HU_9 HT_9
    clear HT_10
    go_wp2_with fail
    refine (HSM.out _ HA_10.out HZ_10.out).mono ?_
    rintro e w11 ⟨aT, cT, rfl, rowT, b11⟩
    have HB11 := Lib.hid (HB10.out.trans (b11.mono hz10))
    have hz11 := HB11.out.size
    have HA_11 := Lib.hid (RdO.below HA_10.out b11)
    have HZ_11 := Lib.hid (Rd.below HZ_10.out b11)
    have HS_11 := Lib.hid (RdO.below HS_10.out b11)
    have HU_11 := Lib.hid (RdO.below HU_10.out b11)
    clear HB10 hz10 b11 HA_10 HZ_10 HS_10 HU_10
    have hcapT := rowO_cap rowT
    have HT_11 := Lib.hid rowT.rd
    clear rowT
    go_wp2_with fail
    refine (HEM.out _ _ _ _ _ HU_11.out HT_11.out).mono ?_
    rintro e w12 ⟨rfl, b12⟩
    have HB12 := Lib.hid (HB11.out.trans (b12.mono hz11))
    have hz12 := HB12.out.size
    have HA_12 := Lib.hid (RdO.below HA_11.out b12)
    have HZ_12 := Lib.hid (Rd.below HZ_11.out b12)
    have HS_12 := Lib.hid (RdO.below HS_11.out b12)
    have HU_12 := Lib.hid (RdO.below HU_11.out b12)
    have HT_12 := Lib.hid (RdO.below HT_11.out b12)
    clear HB11 hz11 b12 HA_11 HZ_11 HS_11 HU_11 HT_11
    clear HT_12
    go_wp2
    go_ret
    exact ⟨rfl, HB12.out⟩
  · skip
    go_wp2_with fail
    refine (HVV.out _ HZ_8.out).mono ?_
    rintro e w9 ⟨rfl, b9⟩
    have HB9 := Lib.hid (HB8.out.trans (b9.mono hz8))
    have hz9 := HB9.out.size
    have HA_9 := Lib.hid (RdO.below HA_8.out b9)
    have HZ_9 := Lib.hid (Rd.below HZ_8.out b9)
    have HS_9 := Lib.hid (RdO.below HS_8.out b9)
    have HU_9 := Lib.hid (RdO.below HU_8.out b9)
    clear HB8 hz8 b9 HA_8 HZ_8 HS_8 HU_8
    cases ov
    · skip
      go_wp2_with fail
      refine (HSP.out _ HA_9.out HZ_9.out).mono ?_
      rintro e w10 ⟨aT, cT, rfl, rowT, b10⟩
      have HB10 := Lib.hid (HB9.out.trans (b10.mono hz9))
      have hz10 := HB10.out.size
      have HA_10 := Lib.hid (RdO.below HA_9.out b10)
      have HZ_10 := Lib.hid (Rd.below HZ_9.out b10)
      have HS_10 := Lib.hid (RdO.below HS_9.out b10)
      have HU_10 := Lib.hid (RdO.below HU_9.out b10)
      clear HB9 hz9 b10 HA_9 HZ_9 HS_9 HU_9
      have hcapT := rowO_cap rowT
      have HT_10 := Lib.hid rowT.rd
      clear rowT
      go_wp2_with fail
      refine (HEP.out _ _ _ _ _ HS_10.out HT_10.out).mono ?_
      rintro e w11 ⟨rfl, b11⟩
      have HB11 := Lib.hid (HB10.out.trans (b11.mono hz10))
      have hz11 := HB11.out.size
      have HA_11 := Lib.hid (RdO.below HA_10.out b11)
      have HZ_11 := Lib.hid (Rd.below HZ_10.out b11)
      have HS_11 := Lib.hid (RdO.below HS_10.out b11)
      have HU_11 := Lib.hid (RdO.below HU_10.out b11)
      have HT_11 := Lib.hid (RdO.below HT_10.out b11)
      clear HB10 hz10 b11 HA_10 HZ_10 HS_10 HU_10 HT_10
      clear HT_11
      go_wp2_with fail
      refine (HSM.out _ HA_11.out HZ_11.out).mono ?_
      rintro e w12 ⟨aT, cT, rfl, rowT, b12⟩
      have HB12 := Lib.hid (HB11.out.trans (b12.mono hz11))
      have hz12 := HB12.out.size
      have HA_12 := Lib.hid (RdO.below HA_11.out b12)
      have HZ_12 := Lib.hid (Rd.below HZ_11.out b12)
      have HS_12 := Lib.hid (RdO.below HS_11.out b12)
      have HU_12 := Lib.hid (RdO.below HU_11.out b12)
      clear HB11 hz11 b12 HA_11 HZ_11 HS_11 HU_11
      have hcapT := rowO_cap rowT
      have HT_12 := Lib.hid rowT.rd
      clear rowT
      go_wp2_with fail
      refine (HEM.out _ _ _ _ _ HU_12.out HT_12.out).mono ?_
      rintro e w13 ⟨rfl, b13⟩
      have HB13 := Lib.hid (HB12.out.trans (b13.mono hz12))
      have hz13 := HB13.out.size
      have HA_13 := Lib.hid (RdO.below HA_12.out b13)
      have HZ_13 := Lib.hid (Rd.below HZ_12.out b13)
      have HS_13 := Lib.hid (RdO.below HS_12.out b13)
      have HU_13 := Lib.hid (RdO.below HU_12.out b13)
      have HT_13 := Lib.hid (RdO.below HT_12.out b13)
      clear HB12 hz12 b13 HA_12 HZ_12 HS_12 HU_12 HT_12
      clear HT_13
      go_wp2
      go_ret
      exact ⟨rfl, HB13.out⟩
    · obtain ⟨k1, k2, k3, k4⟩ := HLaw.out (by first | rfl | trivial) (by first | rfl | trivial)
      rw [k2, k3] at HMg
      rw [k4] at HLE
      have HK := Lib.hid k1
      clear k1 k2 k3 k4 HLaw HV HVV HSP HSM HP HM HEP HEM
      go_wp2
      go_loopw [7] (fun i wr => ∃ k : Nat, k ≤ S.length ∧ i = .int .i64 k ∧ Below w9.heap.size w9 wr) (fun i _ => S.length - (intOf i).toNat)
      case atStart => exact ⟨0, Nat.zero_le _, rfl, Below.refl _ _⟩
      case round =>
        obtain ⟨k, hk, rfl, hnx⟩ := hrel
        have HNX := Lib.hid hnx
        have hzn := hnx.size
        have HSn := Lib.hid (RdO.below HS_9.out hnx)
        have HZn := Lib.hid (Rd.below HZ_9.out hnx)
        clear hnx
        by_cases hlt : k < S.length
        · rcases HSn.out with h0 | ⟨b, off, rfl, hc⟩
          · rw [h0] at hlt; exact absurd hlt (by simp)
          obtain ⟨q, hq⟩ : ∃ q, q = S.getD k zop := ⟨_, rfl⟩
          have hrq : wr.rangeAt b (off + k * 12) (opL q) := by rw [hq]; exact hc k hlt
          have hvc := HVC.out q.i q.j wr HZn.out
          have hkk := HK.out k hlt
          rw [← hq] at hkk
          rw [hkk] at hvc
          have HVC2 := Lib.hid hvc
          obtain ⟨q0, q1, q2, q3, q4, q5, q6, q7, q8, q9, q10, q11⟩ := c12 hrq
          have hk0 : (0 : Int) ≤ (k : Int) := Int.natCast_nonneg _
          have hk1 : (k : Int) < (S.length : Int) := by omega
          clear hq hrq hvc hkk hc q2 q3 q4 q5 q6 q7 q8 q9 q10 q11
          go_wp2_with fail
          refine HVC2.out.mono ?_
          rintro e w99 ⟨rfl, b99⟩
          clear q0 q1
          go_wp2
          go_roundw
          case rel => exact ⟨k + 1, by omega, by go_num, HNX.out.trans (b99.mono hzn)⟩
          case measure => simp [intOf]; omega
        · obtain rfl : k = S.length := by omega
          have HB10 := Lib.hid (HB9.out.trans (HNX.out.mono hz9))
          have hz10 := HB10.out.size
          have HA_10 := Lib.hid (RdO.below HA_9.out HNX.out)
          have HZ_10 := Lib.hid (Rd.below HZ_9.out HNX.out)
          have HS_10 := Lib.hid (RdO.below HS_9.out HNX.out)
          have HU_10 := Lib.hid (RdO.below HU_9.out HNX.out)
          go_wp2_with fail
          refine (HMg.out _ _ _ _ _ HS_10.out HU_10.out hcapS).mono ?_
          rintro e w11 ⟨aX, cX, rfl, rowX, b11⟩
          have HB11 := Lib.hid (HB10.out.trans (b11.mono hz10))
          have hz11 := HB11.out.size
          have HA_11 := Lib.hid (RdO.below HA_10.out b11)
          have HZ_11 := Lib.hid (Rd.below HZ_10.out b11)
          have HS_11 := Lib.hid (RdO.below HS_10.out b11)
          have HU_11 := Lib.hid (RdO.below HU_10.out b11)
          clear HB10 hz10 b11 HA_10 HZ_10 HS_10 HU_10
          have HX_11 := Lib.hid rowX.rd
          clear rowX
          go_wp2_with fail
          refine (HEO.out _ _ _ HX_11.out HA_11.out).mono ?_
          rintro e w12 ⟨rfl, b12⟩
          have HB12 := Lib.hid (HB11.out.trans (b12.mono hz11))
          have hz12 := HB12.out.size
          have HA_12 := Lib.hid (RdO.below HA_11.out b12)
          have HZ_12 := Lib.hid (Rd.below HZ_11.out b12)
          have HS_12 := Lib.hid (RdO.below HS_11.out b12)
          have HU_12 := Lib.hid (RdO.below HU_11.out b12)
          have HX_12 := Lib.hid (RdO.below HX_11.out b12)
          clear HB11 hz11 b12 HA_11 HZ_11 HS_11 HU_11 HX_11
          clear HX_12
          go_wp2_with fail
          refine (HLV.out _ _ _ HS_12.out).mono ?_
          rintro e w13 ⟨aV, cV, rfl, rowV, b13⟩
          have HB13 := Lib.hid (HB12.out.trans (b13.mono hz12))
          have hz13 := HB13.out.size
          have HA_13 := Lib.hid (RdO.below HA_12.out b13)
          have HZ_13 := Lib.hid (Rd.below HZ_12.out b13)
          have HS_13 := Lib.hid (RdO.below HS_12.out b13)
          have HU_13 := Lib.hid (RdO.below HU_12.out b13)
          clear HB12 hz12 b13 HA_12 HZ_12 HS_12 HU_12
          have HV_13 := Lib.hid rowV.rd
          clear rowV
          go_wp2_with fail
          refine (HLE.out _ _ _ HV_13.out HZ_13.out).mono ?_
          rintro e w14 ⟨rfl, b14⟩
          have HB14 := Lib.hid (HB13.out.trans (b14.mono hz13))
          have hz14 := HB14.out.size
          have HA_14 := Lib.hid (RdO.below HA_13.out b14)
          have HZ_14 := Lib.hid (Rd.below HZ_13.out b14)
          have HS_14 := Lib.hid (RdO.below HS_13.out b14)
          have HU_14 := Lib.hid (RdO.below HU_13.out b14)
          have HV_14 := Lib.hid (Rd.below HV_13.out b14)
          clear HB13 hz13 b14 HA_13 HZ_13 HS_13 HU_13 HV_13
          go_wp2
          go_ret
          exact ⟨rfl, HB14.out⟩

end Go.Proofs.YtlogpbejfifgdaaGreat.LvD
