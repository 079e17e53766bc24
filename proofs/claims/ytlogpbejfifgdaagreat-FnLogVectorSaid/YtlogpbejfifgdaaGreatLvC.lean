/-
  The walk of the law FnLogVector: it returns true, whatever the bytes. No condition.
-/
import Derived.Test.YtlogpbejfifgdaaGreatLvB
namespace Go.Proofs.YtlogpbejfifgdaaGreat.LvC
open Go.RowKit Go.Proofs.YtlogpbejfifgdaaGreat.Base Go.Proofs.YtlogpbejfifgdaaGreat.St Go.Proofs.YtlogpbejfifgdaaGreat.StB Go.Proofs.YtlogpbejfifgdaaGreat.Vec Go.Proofs.YtlogpbejfifgdaaGreat.Row Go.Proofs.YtlogpbejfifgdaaGreat.RowB Go.Proofs.YtlogpbejfifgdaaGreat.RowC Go.Proofs.YtlogpbejfifgdaaGreat.VecA Go.Proofs.YtlogpbejfifgdaaGreat.VecD Go.Proofs.YtlogpbejfifgdaaGreat.OpA Go.Proofs.YtlogpbejfifgdaaGreat.OpB Go.Proofs.YtlogpbejfifgdaaGreat.LgA Go.Proofs.YtlogpbejfifgdaaGreat.LgB Go.Proofs.YtlogpbejfifgdaaGreat.LgC Go.Proofs.YtlogpbejfifgdaaGreat.LgF Go.Proofs.YtlogpbejfifgdaaGreat.LgH Go.Proofs.YtlogpbejfifgdaaGreat.LgI Go.Proofs.YtlogpbejfifgdaaGreat.LgP Go.Proofs.YtlogpbejfifgdaaGreat.LgQ Go.Proofs.YtlogpbejfifgdaaGreat.LgS Go.Proofs.YtlogpbejfifgdaaGreat.LgT Go.Proofs.YtlogpbejfifgdaaGreat.LgW Go.Proofs.YtlogpbejfifgdaaGreat.LgX Go.Proofs.YtlogpbejfifgdaaGreat.LgZ Go.Proofs.YtlogpbejfifgdaaGreat.LhA Go.Proofs.YtlogpbejfifgdaaGreat.LhB Go.Proofs.YtlogpbejfifgdaaGreat.LhD Go.Proofs.YtlogpbejfifgdaaGreat.RdA Go.Proofs.YtlogpbejfifgdaaGreat.RdB Go.Proofs.YtlogpbejfifgdaaGreat.RdD Go.Proofs.YtlogpbejfifgdaaGreat.RfC Go.Proofs.YtlogpbejfifgdaaGreat.VdA Go.Proofs.YtlogpbejfifgdaaGreat.VdC Go.Proofs.YtlogpbejfifgdaaGreat.LvA Go.Proofs.YtlogpbejfifgdaaGreat.MoC Go.Proofs.YtlogpbejfifgdaaGreat.LvB
set_option linter.unusedVariables false

set_option maxRecDepth 100000 in
set_option maxHeartbeats 4000000 in
theorem walk (a0 : Option Addr) (len0 cap0 : Nat) (z0 : List Int) (w : World) (r0 : IsRow .u8 w a0 len0 cap0 z0) :
    Calls Tryz.prog 3 #[.slice a0 len0 cap0] w fun e w' => e = .returned (.bool true) ∧ Below w.heap.size w w' := by
  obtain ⟨xs, rfl, hx, rx⟩ := bytes_rd r0
  clear r0
  by_cases l0 : (1048576 : Int) < (xs.length : Int)
  · clear rx
    go_enter Tryz.func3, Tryz.ntmps3
    go_wp2
    go_ret
    exact ⟨rfl, Below.refl _ _⟩
  have HD := Lib.hid (drawVector a0 cap0 xs w rx hx)
  clear rx hx
  go_enter Tryz.func3, Tryz.ntmps3
  go_wp2_with fail
  refine HD.out.mono ?_
  rintro e w1 ⟨⟨A, c, os, rfl, hrow, hlen, ht⟩, b1⟩
  have htm : ∀ k, k < os.length → (os.getD k zop).tx.size ≤ maxLen := fun k hk => by have := ht k hk; unfold maxLen; omega
  have hol : os.length ≤ 1048576 := by omega
  have HB1 := Lib.hid b1
  have hz1 := b1.size
  have HA_1 := Lib.hid hrow
  have HLV := Lib.hid (fun W (h : RdO W A os) => impl_LogVector A c os W h hol htm)
  have HSV := Lib.hid (fun W (h : RdO W A os) => spec_LogVector A c os W h hol htm)
  have hV := fun W (h : RdO W A os) => impl_ValidLog ivop A c os W h hol htm
  have hCl := lvec_len os
  have hEC := fun a b c d W (h : Rd W a (lvec os)) (h' : Rd W b (lvec os)) => eqSelf a b c d (lvec os) W h h' hCl
  have hVV := fun a c W (h : Rd W a (lvec os)) => impl_ValidVector a c (lvec os) W h hCl
  have hP := fun b d W (h : RdO W A os) (h' : Rd W b (lvec os)) => impl_LogPrefix A b c d os (lvec os) W h h' hol hCl htm
  have hM := fun b d W (h : RdO W A os) (h' : Rd W b (lvec os)) => impl_LogMissing A b c d os (lvec os) W h h' hol hCl htm
  have hP0 := fun b d W (h : RdO W A os) (h' : Rd W b [0, 0, 0]) => impl_LogPrefix A b c d os [0, 0, 0] W h h' hol (by simp) htm
  have HEO := Lib.hid (fun a2 c2 W (h : RdO W a2 os) (h' : RdO W A os) => equalLogs a2 A c2 c os W h h' hol)
  obtain ⟨ok, hok⟩ : ∃ ok, vlog os = ok := ⟨_, rfl⟩
  rw [hok] at hV
  have HLaw := Lib.hid (fun (h : ok = true) => vector_law (os := os) (by rw [hok]; exact h))
  obtain ⟨C, hC⟩ : ∃ C, C = lvec os := ⟨_, rfl⟩
  rw [← hC] at HLV HSV hEC hVV hP hM HLaw
  have HV := Lib.hid hV
  have HEC := Lib.hid hEC
  have HVV := Lib.hid hVV
  have HP := Lib.hid hP
  have HM := Lib.hid hM
  have HP0 := Lib.hid hP0
  clear hV hEC hVV hP hM hP0 hC hCl hok hrow ht htm HD l0 b1 hol
  go_wp2_with fail
  refine (HLV.out _ HA_1.out).mono ?_
  rintro e w2 ⟨aC, cC, rfl, rowC, b2⟩
  have HB2 := Lib.hid (HB1.out.trans (b2.mono hz1))
  have hz2 := HB2.out.size
  have HA_2 := Lib.hid (RdO.below HA_1.out b2)
  clear HB1 hz1 b2 HA_1
  have HC_2 := Lib.hid rowC.rd
  clear rowC
  go_wp2_with fail
  refine (HSV.out _ HA_2.out).mono ?_
  rintro e w3 ⟨aD, cD, rfl, rowD, b3⟩
  have HB3 := Lib.hid (HB2.out.trans (b3.mono hz2))
  have hz3 := HB3.out.size
  have HA_3 := Lib.hid (RdO.below HA_2.out b3)
  have HC_3 := Lib.hid (Rd.below HC_2.out b3)
  clear HB2 hz2 b3 HA_2 HC_2
  have HD_3 := Lib.hid rowD.rd
  clear rowD
  go_wp2_with fail
  refine (HEC.out _ _ _ _ _ HC_3.out HD_3.out).mono ?_
  rintro e w4 ⟨rfl, b4⟩
  have HB4 := Lib.hid (HB3.out.trans (b4.mono hz3))
  have hz4 := HB4.out.size
  have HA_4 := Lib.hid (RdO.below HA_3.out b4)
  have HC_4 := Lib.hid (Rd.below HC_3.out b4)
  have HD_4 := Lib.hid (Rd.below HD_3.out b4)
  clear HB3 hz3 b4 HA_3 HC_3 HD_3
  clear HD_4
  go_wp2_with fail
  refine (HV.out _ HA_4.out).mono ?_
  rintro e w5 ⟨rfl, b5⟩
  have HB5 := Lib.hid (HB4.out.trans (b5.mono hz4))
  have hz5 := HB5.out.size
  have HA_5 := Lib.hid (RdO.below HA_4.out b5)
  have HC_5 := Lib.hid (Rd.below HC_4.out b5)
  clear HB4 hz4 b5 HA_4 HC_4
  cases ok
  · skip
    go_wp2_with fail
    refine (HSV.out _ HA_5.out).mono ?_
    rintro e w6 ⟨aD, cD, rfl, rowD, b6⟩
    have HB6 := Lib.hid (HB5.out.trans (b6.mono hz5))
    have hz6 := HB6.out.size
    have HA_6 := Lib.hid (RdO.below HA_5.out b6)
    have HC_6 := Lib.hid (Rd.below HC_5.out b6)
    clear HB5 hz5 b6 HA_5 HC_5
    have HD_6 := Lib.hid rowD.rd
    clear rowD
    go_wp2_with fail
    refine (HEC.out _ _ _ _ _ HC_6.out HD_6.out).mono ?_
    rintro e w7 ⟨rfl, b7⟩
    have HB7 := Lib.hid (HB6.out.trans (b7.mono hz6))
    have hz7 := HB7.out.size
    have HA_7 := Lib.hid (RdO.below HA_6.out b7)
    have HC_7 := Lib.hid (Rd.below HC_6.out b7)
    have HD_7 := Lib.hid (Rd.below HD_6.out b7)
    clear HB6 hz6 b7 HA_6 HC_6 HD_6
    clear HD_7
    go_wp2
    go_ret
    exact ⟨rfl, HB7.out⟩
  · obtain ⟨k1, k2, k3, k4⟩ := HLaw.out (by first | rfl | trivial)
    rw [k1] at HVV
    rw [k2] at HP
    rw [k3] at HM
    rw [k4] at HP0
    clear k1 k2 k3 k4 HLaw HV HSV HLV HEC
    go_wp2_with fail
    refine (HVV.out _ _ _ HC_5.out).mono ?_
    rintro e w6 ⟨rfl, b6⟩
    have HB6 := Lib.hid (HB5.out.trans (b6.mono hz5))
    have hz6 := HB6.out.size
    have HA_6 := Lib.hid (RdO.below HA_5.out b6)
    have HC_6 := Lib.hid (Rd.below HC_5.out b6)
    clear HB5 hz5 b6 HA_5 HC_5
    go_wp2_with fail
    refine (HP.out _ _ _ HA_6.out HC_6.out).mono ?_
    rintro e w7 ⟨aP, cP, rfl, rowP, b7⟩
    have HB7 := Lib.hid (HB6.out.trans (b7.mono hz6))
    have hz7 := HB7.out.size
    have HA_7 := Lib.hid (RdO.below HA_6.out b7)
    have HC_7 := Lib.hid (Rd.below HC_6.out b7)
    clear HB6 hz6 b7 HA_6 HC_6
    have hcapP := rowO_cap rowP
    have HP_7 := Lib.hid rowP.rd
    clear rowP
    go_wp2_with fail
    refine (HEO.out _ _ _ HP_7.out HA_7.out).mono ?_
    rintro e w8 ⟨rfl, b8⟩
    have HB8 := Lib.hid (HB7.out.trans (b8.mono hz7))
    have hz8 := HB8.out.size
    have HA_8 := Lib.hid (RdO.below HA_7.out b8)
    have HC_8 := Lib.hid (Rd.below HC_7.out b8)
    have HP_8 := Lib.hid (RdO.below HP_7.out b8)
    clear HB7 hz7 b8 HA_7 HC_7 HP_7
    clear HP_8
    go_wp2_with fail
    refine (HM.out _ _ _ HA_8.out HC_8.out).mono ?_
    rintro e w9 ⟨aM, cM, rfl, rowM, b9⟩
    have HB9 := Lib.hid (HB8.out.trans (b9.mono hz8))
    have hz9 := HB9.out.size
    have HA_9 := Lib.hid (RdO.below HA_8.out b9)
    have HC_9 := Lib.hid (Rd.below HC_8.out b9)
    clear HB8 hz8 b9 HA_8 HC_8
    have hcapM := rowO_cap rowM
    have HM_9 := Lib.hid rowM.rd
    clear rowM
    clear HM_9
    clear HC_9
    obtain ⟨w10, hw10⟩ : ∃ w10, w10 = w9.alloc (.cells #[.int .i64 0, .int .i64 0, .int .i64 0] 3) := ⟨_, rfl⟩
    have b10 : Below w9.heap.size w9 w10 := by rw [hw10]; exact (Below.refl _ _).alloc (Nat.le_refl _) _
    have HZ0 := Lib.hid (by rw [hw10]; exact zeros w9 3 : Rd w10 (some ⟨w9.heap.size, 0, none⟩) [0, 0, 0])
    have HW := Lib.hid hw10
    clear hw10
    have HB10 := Lib.hid (HB9.out.trans (b10.mono hz9))
    have hz10 := HB10.out.size
    have HA_10 := Lib.hid (RdO.below HA_9.out b10)
    clear HB9 hz9 b10 HA_9
    go_wp2_with fail
    rw [← HW.out]
    refine (HP0.out _ _ _ HA_10.out HZ0.out).mono ?_
    rintro e w11 ⟨aQ, cQ, rfl, rowQ, b11⟩
    have HB11 := Lib.hid (HB10.out.trans (b11.mono hz10))
    have hz11 := HB11.out.size
    have HA_11 := Lib.hid (RdO.below HA_10.out b11)
    clear HB10 hz10 b11 HA_10
    go_wp2
    go_ret
    exact ⟨rfl, HB11.out⟩

end Go.Proofs.YtlogpbejfifgdaaGreat.LvC
