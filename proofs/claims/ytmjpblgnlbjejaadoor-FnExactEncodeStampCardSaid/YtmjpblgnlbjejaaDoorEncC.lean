/-
  Contracts of EncodeStamp of the model and of the program; the walk of the law FnExactEncodeStamp. For every stamp; no condition.
-/
import Derived.Test.YtmjpblgnlbjejaaDoorEncB
namespace Go.Proofs.YtmjpblgnlbjejaaDoor.EncC
open Go.RowKit Go.Proofs.YtmjpblgnlbjejaaDoor.Base Go.Proofs.YtmjpblgnlbjejaaDoor.St Go.Proofs.YtmjpblgnlbjejaaDoor.EncA Go.Proofs.YtmjpblgnlbjejaaDoor.EncB

/-- What EncodeStamp answers. -/
def enc (s a : Int) : ByteArray := if zst s a then ⟨#[45]⟩ else if vst s a then etext s.toNat a else ⟨#[]⟩

theorem ret_str {a b : ByteArray} (h : a = b) : Ending.returned (.string a) = .returned (.string b) := by rw [h]

theorem formatZero (w : World) :
    Calls Tryd.prog 14 #[.agg #[.int .i64 0, .int .i64 0]] w fun e w' => e = .returned (.string ⟨#[45]⟩) ∧ Below w.heap.size w w' := by
  go_enter Tryd.func14, Tryd.ntmps14
  go_wp2
  go_ret
  exact ⟨rfl, (Below.refl _ _).alloc (Nat.le_refl _) _⟩

theorem spec_EncodeStamp (s a : Int) (w : World) :
    Calls Tryd.prog 6 #[.agg #[.int .i64 s, .int .i64 a]] w fun e w' => e = .returned (.string (enc s a)) ∧ Below w.heap.size w w' := by
  have S0 := boxNew w s a 25
  cases hv : vst s a
  · have HV := Lib.hid (fun w => spec_valid s a _ hv w)
    cases hz : zst s a
    · have he : enc s a = ⟨#[]⟩ := by simp [enc, hz, hv]
      by_cases h : s = 0
      · subst h
        have h' : a ≠ 0 := by rintro rfl; simp [zst] at hz
        have hne : (a == 0) = false := by simp [h']
        go_enter Tryd.func6, Tryd.ntmps6
        go_wp2_with fail
        refine (HV.out _).mono ?_
        rintro e w1 ⟨rfl, hb1⟩
        obtain ⟨B1, hz1, c10, c11⟩ := boxNext S0 hb1
        go_wp2
        go_ret
        exact ⟨ret_str he.symm, B1⟩
      · have hne : (s == 0) = false := by simp [h]
        go_enter Tryd.func6, Tryd.ntmps6
        go_wp2_with fail
        refine (HV.out _).mono ?_
        rintro e w1 ⟨rfl, hb1⟩
        obtain ⟨B1, hz1, c10, c11⟩ := boxNext S0 hb1
        go_wp2
        go_ret
        exact ⟨ret_str he.symm, B1⟩
    · obtain ⟨rfl, rfl⟩ : s = 0 ∧ a = 0 := by simpa [zst] using hz
      have he : enc 0 0 = ⟨#[45]⟩ := by simp [enc, hz]
      go_enter Tryd.func6, Tryd.ntmps6
      go_wp2_with fail
      refine (HV.out _).mono ?_
      rintro e w1 ⟨rfl, hb1⟩
      obtain ⟨B1, hz1, c10, c11⟩ := boxNext S0 hb1
      go_wp2_with fail
      refine (formatZero _).mono ?_
      rintro e w2 ⟨rfl, hb2⟩
      go_wp2
      go_ret
      exact ⟨ret_str he.symm, B1.trans (hb2.mono B1.size)⟩
  · have HV := Lib.hid (fun w => spec_valid s a _ hv w)
    obtain ⟨⟨h1, h2⟩, h3, h4⟩ := (vst_iff s a).1 hv
    obtain ⟨n, rfl⟩ : ∃ n : Nat, s = n := ⟨s.toNat, by omega⟩
    have hz : zst n a = false := by simp [zst]; omega
    have he : enc n a = etext n a := by simp [enc, hz, hv]
    have HF := Lib.hid (fun w => formatStamp n a (by omega) (by omega) h3 h4 w)
    clear h1 h2 h3 h4
    go_enter Tryd.func6, Tryd.ntmps6
    go_wp2_with fail
    refine (HV.out _).mono ?_
    rintro e w1 ⟨rfl, hb1⟩
    obtain ⟨B1, hz1, c10, c11⟩ := boxNext S0 hb1
    go_wp2_with fail
    refine (HF.out _).mono ?_
    rintro e w2 ⟨rfl, hb2⟩
    go_wp2
    go_ret
    exact ⟨ret_str he.symm, B1.trans (hb2.mono B1.size)⟩

theorem rune_eq (n : Nat) (a : Int) (ha : 0 ≤ a) (ha2 : a ≤ 2) : dtext n ++ Utf8.encode (IntKind.i32.wrap (IntKind.i64.wrap (97 + a))) = etext n a := by
  have e : IntKind.i32.wrap (IntKind.i64.wrap (97 + a)) = 97 + a := by
    simp [IntKind.wrap, IntKind.bits, IntKind.signed]
    omega
  rw [e]
  unfold etext
  congr 1
  obtain rfl | rfl | rfl : a = 0 ∨ a = 1 ∨ a = 2 := by omega
  all_goals kernel_rfl

theorem itoa (n : Nat) (h : n < 100) (w : World) :
    Calls Tryd.prog 17 #[.int .i64 n] w fun e w' => e = .returned (.string (dtext n)) ∧ w' = w := Tryd.strconv_Itoa_small n h w

set_option maxHeartbeats 2000000 in
theorem impl_EncodeStamp (s a : Int) (w : World) :
    Calls Tryd.prog 8 #[.agg #[.int .i64 s, .int .i64 a]] w fun e w' => e = .returned (.string (enc s a)) ∧ Below w.heap.size w w' := by
  have S0 := boxNew w s a 25
  cases hz : zst s a
  · have HZ := Lib.hid (fun w => impl_isZero s a _ hz w)
    cases hv : vst s a
    · have HV := Lib.hid (fun w => impl_Valid s a _ hv w)
      have he : enc s a = ⟨#[]⟩ := by simp [enc, hz, hv]
      go_enter Tryd.func8, Tryd.ntmps8
      go_wp2_with fail
      refine (HZ.out _).mono ?_
      rintro e w1 ⟨rfl, hb1⟩
      have S1 := boxNext S0 hb1
      obtain ⟨B1, hz1, c10, c11⟩ := S1
      go_wp2_with fail
      refine (HV.out _).mono ?_
      rintro e w2 ⟨rfl, hb2⟩
      go_wp2
      go_ret
      exact ⟨ret_str he.symm, B1.trans (hb2.mono B1.size)⟩
    · have HV := Lib.hid (fun w => impl_Valid s a _ hv w)
      obtain ⟨⟨h1, h2⟩, h3, h4⟩ := (vst_iff s a).1 hv
      obtain ⟨n, rfl⟩ : ∃ n : Nat, s = n := ⟨s.toNat, by omega⟩
      have h99 : n < 100 := by omega
      have he : enc n a = etext n a := by simp [enc, hz, hv]
      have hs := fun m => addRune (dtext n) m (dsize n h99)
      have HR := Lib.hid (rune_eq n a h3 h4)
      have HI := Lib.hid (fun w => itoa n h99 w)
      clear h1 h2 h3 h4
      go_enter Tryd.func8, Tryd.ntmps8
      go_wp2_with fail
      refine (HZ.out _).mono ?_
      rintro e w1 ⟨rfl, hb1⟩
      have S1 := boxNext S0 hb1
      obtain ⟨B1, hz1, c10, c11⟩ := id S1
      go_wp2_with fail
      refine (HV.out _).mono ?_
      rintro e w2 ⟨rfl, hb2⟩
      have S2 := boxNext S1 hb2
      obtain ⟨B2, hz2, c20, c21⟩ := id S2
      clear c10 c11 hb1 hb2
      go_wp2_with fail
      go_region_with ((go_at_call 17; refine (HI.out _).mono ?_; rintro e w3 ⟨rfl, rfl⟩))
      all_goals go_wp2
      all_goals go_ret
      all_goals exact ⟨ret_str (HR.out.trans he.symm), B2.drew⟩
  · obtain ⟨rfl, rfl⟩ : s = 0 ∧ a = 0 := by simpa [zst] using hz
    have HZ := Lib.hid (fun w => impl_isZero 0 0 _ hz w)
    have he : enc 0 0 = ⟨#[45]⟩ := by simp [enc, hz]
    go_enter Tryd.func8, Tryd.ntmps8
    go_wp2_with fail
    refine (HZ.out _).mono ?_
    rintro e w1 ⟨rfl, hb1⟩
    obtain ⟨B1, hz1, c10, c11⟩ := boxNext S0 hb1
    go_wp2
    go_ret
    exact ⟨ret_str he.symm, B1⟩

theorem walkEncodeStamp (s a : Int) (_hs : (Lit.int .i64 s).wf = true) (_ha : (Lit.int .i64 a).wf = true) (w : World) :
    Calls Tryd.prog 3 #[.agg #[.int .i64 s, .int .i64 a]] w fun e w' => e = .returned (.bool true) ∧ Below w.heap.size w w' := by
  have S0 := boxNew w s a 23
  have HT := Lib.hid (fun w => toStamp s a w)
  have HS := Lib.hid (fun w => spec_EncodeStamp s a w)
  have HI := Lib.hid (fun w => impl_EncodeStamp s a w)
  generalize enc s a = x at HS HI
  go_enter Tryd.func3, Tryd.ntmps3
  go_wp2_with fail
  refine (HT.out _).mono ?_
  rintro e w1 ⟨rfl, hb1⟩
  have S1 := boxNext S0 hb1
  clear S0 hb1
  obtain ⟨B1, hz1, c10, c11⟩ := id S1
  go_wp2_with fail
  refine (HS.out _).mono ?_
  rintro e w2 ⟨rfl, hb2⟩
  have S2 := boxNext S1 hb2
  clear S1 hb2 B1 hz1 c10 c11
  obtain ⟨B2, hz2, c20, c21⟩ := id S2
  go_wp2_with fail
  refine (HT.out _).mono ?_
  rintro e w3 ⟨rfl, hb3⟩
  have S3 := boxNext S2 hb3
  clear S2 hb3 B2 hz2 c20 c21
  obtain ⟨B3, hz3, c30, c31⟩ := id S3
  go_wp2_with fail
  refine (HI.out _).mono ?_
  rintro e w4 ⟨rfl, hb4⟩
  have S4 := boxNext S3 hb4
  clear S3 hb4 B3 hz3 c30 c31
  obtain ⟨B4, hz4, c40, c41⟩ := id S4
  go_wp2
  go_ret
  exact ⟨rfl, B4⟩

end Go.Proofs.YtmjpblgnlbjejaaDoor.EncC
