/-
  The walk of the law FnLogMerge: it returns true, whatever the bytes. No condition.
-/
import Derived.Test.YtmhflifaeplalaaMoD
import Derived.Test.YtmhflifaeplalaaMoE
import Derived.Test.YtmhflifaeplalaaLhD
import Derived.Test.YtmhflifaeplalaaK2
import Derived.Outline
namespace Go.Proofs.Ytmhflifaeplalaa.MoF
open Go.RowKit Go.Proofs.Ytmhflifaeplalaa.Base Go.Proofs.Ytmhflifaeplalaa.OpA Go.Proofs.Ytmhflifaeplalaa.OpB Go.Proofs.Ytmhflifaeplalaa.LgA Go.Proofs.Ytmhflifaeplalaa.LgB Go.Proofs.Ytmhflifaeplalaa.LgC Go.Proofs.Ytmhflifaeplalaa.LgF Go.Proofs.Ytmhflifaeplalaa.LgH Go.Proofs.Ytmhflifaeplalaa.LgI Go.Proofs.Ytmhflifaeplalaa.LgP Go.Proofs.Ytmhflifaeplalaa.LgT Go.Proofs.Ytmhflifaeplalaa.LgZ Go.Proofs.Ytmhflifaeplalaa.LhA Go.Proofs.Ytmhflifaeplalaa.LhB Go.Proofs.Ytmhflifaeplalaa.LhD Go.Proofs.Ytmhflifaeplalaa.RdA Go.Proofs.Ytmhflifaeplalaa.RdB Go.Proofs.Ytmhflifaeplalaa.RdD Go.Proofs.Ytmhflifaeplalaa.MoA Go.Proofs.Ytmhflifaeplalaa.MoB Go.Proofs.Ytmhflifaeplalaa.MoC Go.Proofs.Ytmhflifaeplalaa.MoD Go.Proofs.Ytmhflifaeplalaa.MoE
set_option linter.unusedVariables false

theorem mergeL_len (a b : List OpV) : (mergeL a b).length ≤ a.length + b.length := by
  unfold mergeL
  split
  · split
    · exact uni_len b a
    · omega
  · simp
theorem rowO_cap {lo : Nat} {w : World} {a : Option Addr} {c n : Nat} {f : Nat → OpV} (h : RowO lo w a c n f) : n ≤ c := by
  rcases h with ⟨_, h0⟩ | ⟨b, _, _, ⟨g, _, hn, _⟩⟩
  · omega
  · exact hn
theorem short_get {os : List OpV} (h : Short os) (k : Nat) (hk : k < os.length) : (os.getD k zop).tx.size ≤ maxLen := by
  rw [List.getD_eq_getElem?_getD, List.getElem?_eq_getElem hk]
  have := h os[k] (List.getElem_mem hk)
  show os[k].tx.size ≤ maxLen
  unfold maxLen
  omega
theorem short_merge {a b : List OpV} (ha : Short a) (hb : Short b) : Short (mergeL a b) := by
  intro p hp
  unfold mergeL at hp
  split at hp
  next h =>
    rw [Bool.and_eq_true] at h
    split at hp
    · rcases (mem_uni ((vlog_iff a).1 h.1).2.2 ((vlog_iff b).1 h.2).2.2 p).1 hp with k | k
      · exact ha p k
      · exact hb p k.1
    · exact ha p hp
  · cases hp

set_option maxRecDepth 100000 in
set_option maxHeartbeats 8000000 in
theorem walk (a0 : Option Addr) (len0 cap0 : Nat) (z0 : List Int) (w : World) (r0 : IsRow .u8 w a0 len0 cap0 z0) :
    Calls Try.prog 12 #[.slice a0 len0 cap0] w fun e w' => e = .returned (.bool true) ∧ Below w.heap.size w w' := by
  obtain ⟨xs, rfl, hx, rx⟩ := bytes_rd r0
  clear r0
  by_cases l0 : (1048576 : Int) < (xs.length : Int)
  · clear rx
    go_enter Try.func12, Try.ntmps12
    go_wp2
    go_ret
    exact ⟨rfl, Below.refl _ _⟩
  have HD := Lib.hid (drawMerge a0 cap0 xs w rx hx)
  clear rx hx
  go_enter Try.func12, Try.ntmps12
  go_wp2_with fail
  refine HD.out.mono ?_
  rintro e w1 ⟨⟨u, v, us, vs, rfl, hou, hov, hlu, hlv, hsu, hsv⟩, b1⟩
  obtain ⟨A, c, rfl, hrowA⟩ := ownedO hou
  obtain ⟨B, d, rfl, hrowB⟩ := ownedO hov
  have hcA := own_le hou
  have hcB := own_le hov
  have HRA := Lib.hid hrowA.rd
  have HRB := Lib.hid hrowB.rd
  have htu := short_get hsu
  have htv := short_get hsv
  have HB1 := Lib.hid b1
  have hz1 := b1.size
  have hlm := mergeL_len us vs
  have HSM := Lib.hid (short_get (short_merge hsu hsv))
  have HI1 := Lib.hid (impl_LogMerge A B c d us vs w1 HRA.out HRB.out (by omega) (by omega) hcA htu htv)
  have HS1 := Lib.hid (fun W (hb : Below w1.heap.size w1 W) => spec_LogMerge A B c d us vs W (HRA.out.below hb) (HRB.out.below hb) (by omega) (by omega) htu htv)
  have HI2 := Lib.hid (fun W (hb : Below w1.heap.size w1 W) => impl_LogMerge B A d c vs us W (HRB.out.below hb) (HRA.out.below hb) (by omega) (by omega) hcB htv htu)
  have HI3 := Lib.hid (fun a2 c2 W (h : RdO W a2 (mergeL us vs)) (hb : Below w1.heap.size w1 W) (hc : (mergeL us vs).length ≤ c2) => impl_LogMerge a2 B c2 d (mergeL us vs) vs W h (HRB.out.below hb) (by omega) (by omega) hc HSM.out htv)
  have HI4 := Lib.hid (fun W (hb : Below w1.heap.size w1 W) => impl_LogMerge A A c c us us W (HRA.out.below hb) (HRA.out.below hb) (by omega) (by omega) hcA htu htu)
  have HV := Lib.hid (fun a2 c2 W (h : RdO W a2 (mergeL us vs)) => impl_ValidLog ivop a2 c2 (mergeL us vs) W h (by omega) HSM.out)
  have HML := Lib.hid (fun (h : mergeT us vs = true) hg => merge_law h hg)
  have HVB := Lib.hid (fun (h : mergeT us vs = true) => show srt vs from by unfold mergeT at h; simp only [Bool.and_eq_true] at h; exact ((vlog_iff vs).1 h.2.1).2.2)
  have HAG := Lib.hid (fun W (hb : Below w1.heap.size w1 W) => agree A B c d us vs W (HRA.out.below hb) (HRB.out.below hb) (by omega) (by omega))
  have HE4 := Lib.hid (fun a4 c4 W (h : RdO W a4 us) (hb : Below w1.heap.size w1 W) => equalLogs a4 A c4 c us W h (HRA.out.below hb) (by omega))
  clear hou hov hsu hsv hrowA hrowB htu htv hcA hcB HD b1 l0
  obtain ⟨L, hL⟩ : ∃ L, L = mergeL us vs := ⟨_, rfl⟩
  obtain ⟨T, hT⟩ : ∃ T, mergeT us vs = T := ⟨_, rfl⟩
  rw [← hL] at hlm HI1 HS1 HI3 HV HML HSM
  rw [hT] at HI1 HS1 HML HVB
  have HL := Lib.hid hL
  have HT := Lib.hid hT
  have hlL : L.length ≤ 1048576 := by omega
  have HEL := Lib.hid (fun a2 c2 a3 c3 W (h : RdO W a2 L) (h' : RdO W a3 L) => equalLogs a2 a3 c2 c3 L W h h' hlL)
  clear hL hT hlm
  go_wp2_with fail
  refine HI1.out.mono ?_
  rintro e w2 ⟨a2, c2, rfl, row2, b2⟩
  have hc2 := rowO_cap row2
  have HR2 := Lib.hid row2.rd
  have HB2 := Lib.hid b2
  have hz2 := b2.size
  clear row2 b2 HI1
  go_wp2_with fail
  refine (HS1.out _ HB2.out).mono ?_
  rintro e w3 ⟨a3, c3, rfl, row3, b3⟩
  have HR3 := Lib.hid row3.rd
  have HR2' := Lib.hid (HR2.out.below b3)
  have HB3 := Lib.hid (HB2.out.trans (b3.mono hz2))
  have hz3 := HB3.out.size
  clear row3 b3 HS1
  cases T
  · go_wp2_with fail
    refine (HEL.out _ _ _ _ _ HR2'.out HR3.out).mono ?_
    rintro e w4 ⟨rfl, b4⟩
    have HB4 := Lib.hid (HB3.out.trans (b4.mono hz3))
    have hz4 := HB4.out.size
    have HX4 := Lib.hid (HR2'.out.below b4)
    have HW4 := Lib.hid (HR3.out.below b4)
    clear b4
    go_wp2_with fail
    refine (HEL.out _ _ _ _ _ HX4.out HW4.out).mono ?_
    rintro e w5 ⟨rfl, b5⟩
    have HB5 := Lib.hid (HB4.out.trans (b5.mono hz4))
    have hz5 := HB5.out.size
    go_wp2
    go_ret
    exact ⟨rfl, HB1.out.trans (HB5.out.mono hz1)⟩
  · go_wp2_with fail
    refine (HEL.out _ _ _ _ _ HR2'.out HR3.out).mono ?_
    rintro e w4 ⟨rfl, b4⟩
    have HB4 := Lib.hid (HB3.out.trans (b4.mono hz3))
    have hz4 := HB4.out.size
    have HX4 := Lib.hid (HR2'.out.below b4)
    have HW4 := Lib.hid (HR3.out.below b4)
    clear b4
    go_wp2_with fail
    refine (HAG.out _ HB4.out).mono ?_
    rintro e w5 ⟨⟨r, rfl, hr⟩, b5⟩
    have HB5 := Lib.hid (HB4.out.trans (b5.mono hz4))
    have hz5 := HB5.out.size
    have HX5 := Lib.hid (HX4.out.below b5)
    have HW5 := Lib.hid (HW4.out.below b5)
    clear b5 HAG
    cases r
    · go_wp2_with fail
      refine (HEL.out _ _ _ _ _ HX5.out HW5.out).mono ?_
      rintro e w6 ⟨rfl, b6⟩
      have HB6 := Lib.hid (HB5.out.trans (b6.mono hz5))
      have hz6 := HB6.out.size
      go_wp2
      go_ret
      exact ⟨rfl, HB1.out.trans (HB6.out.mono hz1)⟩
    · obtain ⟨k1, k2, k3, k4, k5, k6, k7⟩ := HML.out (by first | rfl | trivial) (agr_of (hr rfl) (HVB.out (by first | rfl | trivial)))
      rw [k2, k3] at HI2
      rw [k4, k5] at HI3
      rw [k6, k7] at HI4
      rw [k1] at HV
      clear k1 k2 k3 k4 k5 k6 k7 hr
      go_wp2_with fail
      refine (HI2.out _ HB5.out).mono ?_
      rintro e w6 ⟨a6, c6, rfl, row6, b6⟩
      have HY6 := Lib.hid row6.rd
      have HX6 := Lib.hid (HX5.out.below b6)
      have HB6 := Lib.hid (HB5.out.trans (b6.mono hz5))
      have hz6 := HB6.out.size
      clear row6 b6 HI2
      go_wp2_with fail
      refine (HI3.out _ _ _ HX6.out HB6.out hc2).mono ?_
      rintro e w7 ⟨a7, c7, rfl, row7, b7⟩
      have HZ7 := Lib.hid row7.rd
      have HX7 := Lib.hid (HX6.out.below b7)
      have HY7 := Lib.hid (HY6.out.below b7)
      have HB7 := Lib.hid (HB6.out.trans (b7.mono hz6))
      have hz7 := HB7.out.size
      clear row7 b7 HI3
      go_wp2_with fail
      refine (HI4.out _ HB7.out).mono ?_
      rintro e w8 ⟨a8, c8, rfl, row8, b8⟩
      have HO8 := Lib.hid row8.rd
      have HX8 := Lib.hid (HX7.out.below b8)
      have HY8 := Lib.hid (HY7.out.below b8)
      have HZ8 := Lib.hid (HZ7.out.below b8)
      have HB8 := Lib.hid (HB7.out.trans (b8.mono hz7))
      have hz8 := HB8.out.size
      clear row8 b8 HI4
      go_wp2_with fail
      refine (HV.out _ _ _ HX8.out).mono ?_
      rintro e w9 ⟨rfl, b9⟩
      have HO9 := Lib.hid (HO8.out.below b9)
      have HX9 := Lib.hid (HX8.out.below b9)
      have HY9 := Lib.hid (HY8.out.below b9)
      have HZ9 := Lib.hid (HZ8.out.below b9)
      have HB9 := Lib.hid (HB8.out.trans (b9.mono hz8))
      have hz9 := HB9.out.size
      clear b9 HV
      go_wp2_with fail
      refine (HEL.out _ _ _ _ _ HY9.out HX9.out).mono ?_
      rintro e w10 ⟨rfl, b10⟩
      have HB10 := Lib.hid (HB9.out.trans (b10.mono hz9))
      have hz10 := HB10.out.size
      have HO10 := Lib.hid (HO9.out.below b10)
      have HX10 := Lib.hid (HX9.out.below b10)
      have HZ10 := Lib.hid (HZ9.out.below b10)
      clear b10
      go_wp2_with fail
      refine (HEL.out _ _ _ _ _ HZ10.out HX10.out).mono ?_
      rintro e w11 ⟨rfl, b11⟩
      have HB11 := Lib.hid (HB10.out.trans (b11.mono hz10))
      have hz11 := HB11.out.size
      have HO11 := Lib.hid (HO10.out.below b11)
      clear b11
      go_wp2_with fail
      refine (HE4.out _ _ _ HO11.out HB11.out).mono ?_
      rintro e w12 ⟨rfl, b12⟩
      have HB12 := Lib.hid (HB11.out.trans (b12.mono hz11))
      go_wp2
      go_ret
      exact ⟨rfl, HB1.out.trans (HB12.out.mono hz1)⟩

end Go.Proofs.Ytmhflifaeplalaa.MoF
