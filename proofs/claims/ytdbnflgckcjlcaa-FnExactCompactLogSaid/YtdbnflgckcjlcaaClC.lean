/-
  CompactLog of the model: contract. For slices that read as a list of at most 2^20 operations.
-/
import Derived.Test.YtdbnflgckcjlcaaClA
import Derived.Test.YtdbnflgckcjlcaaK5
import Derived.Test.YtdbnflgckcjlcaaK2
import Derived.Outline
namespace Go.Proofs.Ytdbnflgckcjlcaa.ClC
open Go.RowKit Go.Proofs.Ytdbnflgckcjlcaa.Base Go.Proofs.Ytdbnflgckcjlcaa.St Go.Proofs.Ytdbnflgckcjlcaa.StB Go.Proofs.Ytdbnflgckcjlcaa.OpA Go.Proofs.Ytdbnflgckcjlcaa.OpB Go.Proofs.Ytdbnflgckcjlcaa.LgA Go.Proofs.Ytdbnflgckcjlcaa.LgB Go.Proofs.Ytdbnflgckcjlcaa.LgC Go.Proofs.Ytdbnflgckcjlcaa.LgF Go.Proofs.Ytdbnflgckcjlcaa.LgG Go.Proofs.Ytdbnflgckcjlcaa.LgH Go.Proofs.Ytdbnflgckcjlcaa.LgI Go.Proofs.Ytdbnflgckcjlcaa.LgP Go.Proofs.Ytdbnflgckcjlcaa.LgQ Go.Proofs.Ytdbnflgckcjlcaa.LgR Go.Proofs.Ytdbnflgckcjlcaa.LgS Go.Proofs.Ytdbnflgckcjlcaa.LgZ Go.Proofs.Ytdbnflgckcjlcaa.LwA Go.Proofs.Ytdbnflgckcjlcaa.ClA
set_option linter.unusedVariables false
attribute [local go_sem ↓] Go.wp_at_zero Go.wp_at_succ
attribute [local irreducible] Go.wpQuiet

theorem keep_yes {os : List OpV} {P : OpV → Bool} {k : Nat} (h : P (os.getD k zop) = true) : keepTo P os (k + 1) = keepTo P os k ++ [os.getD k zop] := by rw [keepTo, if_pos h]
theorem keep_no {os : List OpV} {P : OpV → Bool} {k : Nat} (h : P (os.getD k zop) = false) : keepTo P os (k + 1) = keepTo P os k := by rw [keepTo, if_neg (by rw [h]; exact Bool.false_ne_true)]

set_option maxRecDepth 100000 in
set_option maxHeartbeats 4000000 in
theorem spec_CompactLog (a : Option Addr) (c : Nat) (os : List OpV) (w : World) (hr : RdO w a os) (hl : os.length ≤ 1048576) (ht : ∀ k, k < os.length → (os.getD k zop).tx.size ≤ maxLen) :
    Calls Try.prog 12 #[.slice a os.length c] w (GivesO w (cmp os)) := by
  have HV0 := fun W (h : Below w.heap.size w W) => spec_validLog svop a c os W (hr.below h) hl ht
  have hx : cmp os = if vlog os then keepTo (need os) os os.length else [] := rfl
  rw [hx]
  obtain ⟨w0, hw0⟩ : ∃ w0, w0 = w.alloc (.cells #[] 63) := ⟨_, rfl⟩
  have HBY := Lib.hid (by rw [hw0]; exact (Below.refl _ _).alloc (Nat.le_refl _) _ : Below w.heap.size w w0)
  have HE0 := Lib.hid (by rw [hw0]; exact ownsO_empty w w.heap.size (Nat.le_refl _) : OwnsO w0 w.heap.size (.slice (some ⟨w.heap.size, 0, none⟩) 0 0) [])
  have HWY := Lib.hid hw0
  have HR := Lib.hid hr
  clear hr ht hx hw0
  obtain ⟨p, hp⟩ : ∃ p, vlog os = p := ⟨_, rfl⟩
  rw [hp] at HV0
  rw [hp]
  have HV := Lib.hid (HV0 w0 HBY.out)
  have HVL := Lib.hid hp
  clear HV0 hp
  cases p
  · go_enter Try.func12, Try.ntmps12
    go_wp2_with fail
    rw [← HWY.out]
    refine HV.out.mono ?_
    rintro e w1 ⟨rfl, b1⟩
    go_wp2
    go_ret
    exact GivesO.from (HBY.out.trans (b1.mono HBY.out.size)) (givesO_nil _)
  · go_enter Try.func12, Try.ntmps12
    go_wp2_with fail
    rw [← HWY.out]
    refine HV.out.mono ?_
    rintro e w1 ⟨rfl, b1⟩
    have HB1 := Lib.hid (HBY.out.trans (b1.mono HBY.out.size))
    have HO1 := Lib.hid (HE0.out.below b1)
    clear b1 HV HE0 HBY HWY
    go_wp2
    go_loopw [3, 4] (fun v i wr => ∃ k : Nat, k ≤ os.length ∧ i = .int .i64 k ∧ OwnsO wr w.heap.size v (keepTo (need os) os k) ∧ Below w.heap.size w wr) (fun _ i _ => os.length - (intOf i).toNat)
    case atStart => exact ⟨0, Nat.zero_le _, rfl, HO1.out, HB1.out⟩
    case round =>
      obtain ⟨k, hk, rfl, hown, hnx⟩ := hrel
      obtain ⟨W0, hW0⟩ : ∃ W0, W0 = wr := ⟨_, rfl⟩
      subst hW0
      have HNX := Lib.hid hnx
      have HOW := Lib.hid hown
      have hzw := hnx.size
      by_cases hlt : k < os.length
      · rcases HR.out with h0 | ⟨b, off, rfl, hc⟩
        · rw [h0] at hlt; exact absurd hlt (by simp)
        have HCC := Lib.hid hc
        obtain ⟨o, ho⟩ : ∃ o, o = os.getD k zop := ⟨_, rfl⟩
        have HRQ := Lib.hid (by rw [ho]; exact rangeAt_below (hc k hlt) hnx (rangeAt_lt (hc k hlt)) : W0.rangeAt b (off + k * 12) (opL o))
        have hkl := keepTo_len (need os) os k
        have HN := Lib.hid (need_later HVL.out hlt)
        have HO := Lib.hid ho
        clear ho hnx hown hc
        have hk0 : (0 : Int) ≤ (k : Int) := Int.natCast_nonneg _
        have hk1 : (k : Int) < (os.length : Int) := by omega
        have hlen : (keepTo (need os) os k).length ≤ 1048576 := by omega
        go_wp2
        go_loopw [5, 6] (fun fl kk wr => ∃ m : Nat, k + 1 ≤ m ∧ m ≤ os.length ∧ kk = .int .i64 m ∧ fl = .bool (later os k m) ∧ Hid (o.k = 10 ∨ m = k + 1) ∧ Below W0.heap.size W0 wr) (fun _ kk _ => os.length - (intOf kk).toNat)
        case atStart => exact ⟨k + 1, Nat.le_refl _, by omega, by go_num, by rw [later_none os (Nat.le_refl _)], .inr rfl, Below.refl _ _⟩
        case round =>
          obtain ⟨m, hm0, hm1, rfl, rfl, hor, hB⟩ := hrel
          obtain ⟨fl, hfl⟩ : ∃ fl, later os k m = fl := ⟨_, rfl⟩
          rw [hfl]
          have HFL := Lib.hid hfl
          have HB := Lib.hid hB
          have HRW := Lib.hid (rangeAt_below HRQ.out hB (rangeAt_lt HRQ.out))
          have hzr := hB.size
          have hsz1 : w.heap.size ≤ wr.heap.size := by omega
          clear hfl hB
          obtain ⟨q0, q1, q2, q3, q4, q5, q6, q7, q8, q9, q10, q11⟩ := c12 HRW.out
          by_cases hlt2 : m < os.length
          · by_cases hk10 : o.k = 10
            · have HK10 := Lib.hid hk10
              have gk : (o.k == 10) = true := by simp [hk10]
              obtain ⟨p, hp⟩ : ∃ p, p = os.getD m zop := ⟨_, rfl⟩
              have HRP := Lib.hid (by rw [hp]; exact rangeAt_below (HCC.out m hlt2) (HNX.out.trans (HB.out.mono (by omega))) (rangeAt_lt (HCC.out m hlt2)) : wr.rangeAt b (off + m * 12) (opL p))
              have HNEXT := Lib.hid (by rw [later_succ os hm0, HFL.out, ← hp, ← HO.out] : later os k (m + 1) = (fl || twin p o))
              have hm2 : (0 : Int) ≤ (m : Int) := Int.natCast_nonneg _
              have hm3 : (m : Int) < (os.length : Int) := by omega
              clear hp hk10
              cases fl
              · rcases (show (¬ p.k = 10) ∨ (p.k = 10 ∧ ¬ p.ts = o.ts) ∨ (p.k = 10 ∧ p.ts = o.ts ∧ ¬ p.ta = o.ta) ∨ (p.k = 10 ∧ p.ts = o.ts ∧ p.ta = o.ta ∧ ¬ p.j = o.j) ∨ (p.k = 10 ∧ p.ts = o.ts ∧ p.ta = o.ta ∧ p.j = o.j) from by omega) with e1 | ⟨e1, e2⟩ | ⟨e1, e2, e3⟩ | ⟨e1, e2, e3, e4⟩ | ⟨e1, e2, e3, e4⟩
                · have g1 : (p.k == 10) = false := by simp [e1]
                  have HTW := Lib.hid (by unfold twin; simp [e1] : twin p o = false)
                  clear e1
                  go_wp2
                  refine region_lit (C := fun W => Below wr.heap.size wr W) (by kernel_rfl) (by kernel_rfl) (Below.refl _ _).drew ?_
                  repeat (
                    first
                      | (refine wpQuiet_step (fun K hK => ?_)
                         go_simp
                         first
                           | (refine hK _ ?_; clear hK K)
                           | (apply Exists.intro
                              refine ⟨fun W hW => ?_, hK _ ?_⟩
                              · obtain ⟨q0, q1, q2, q3, q4, q5, q6, q7, q8, q9, q10, q11⟩ := c12 (rangeAt_below HRW.out hW (rangeAt_lt HRW.out))
                                obtain ⟨p0, p1, p2, p3, p4, p5, p6, p7, p8, p9, p10, p11⟩ := c12 (rangeAt_below HRP.out hW (rangeAt_lt HRP.out))
                                first
                                  | (go_simp; exact rfl)
                                  | (go_simp; exact ⟨rfl, rfl⟩)
                              clear hK K)))
                  refine wpQuiet_nil ?_
                  intro W1 hW1
                  have HB2 := Lib.hid (HB.out.trans (hW1.mono (by omega)))
                  clear q0 q1 q2 q3 q4 q5 q6 q7 q8 q9 q10 q11
                  go_wp2
                  go_roundw
                  case rel => exact ⟨m + 1, by omega, by omega, by go_num, by rw [HNEXT.out, HTW.out]; rfl, .inl HK10.out, HB2.out⟩
                  case measure => simp [intOf]; omega
                · have g1 : (p.k == 10) = true := by simp [e1]
                  have g2 : (p.ts == o.ts) = false := by simp [e2]
                  have HTW := Lib.hid (by unfold twin; simp [e1, e2] : twin p o = false)
                  clear e1 e2
                  go_wp2
                  refine region_lit (C := fun W => Below wr.heap.size wr W) (by kernel_rfl) (by kernel_rfl) (Below.refl _ _).drew ?_
                  repeat (
                    first
                      | (refine wpQuiet_step (fun K hK => ?_)
                         go_simp
                         first
                           | (refine hK _ ?_; clear hK K)
                           | (apply Exists.intro
                              refine ⟨fun W hW => ?_, hK _ ?_⟩
                              · obtain ⟨q0, q1, q2, q3, q4, q5, q6, q7, q8, q9, q10, q11⟩ := c12 (rangeAt_below HRW.out hW (rangeAt_lt HRW.out))
                                obtain ⟨p0, p1, p2, p3, p4, p5, p6, p7, p8, p9, p10, p11⟩ := c12 (rangeAt_below HRP.out hW (rangeAt_lt HRP.out))
                                first
                                  | (go_simp; exact rfl)
                                  | (go_simp; exact ⟨rfl, rfl⟩)
                              clear hK K)))
                  refine wpQuiet_nil ?_
                  intro W1 hW1
                  have HB2 := Lib.hid (HB.out.trans (hW1.mono (by omega)))
                  clear q0 q1 q2 q3 q4 q5 q6 q7 q8 q9 q10 q11
                  go_wp2
                  go_roundw
                  case rel => exact ⟨m + 1, by omega, by omega, by go_num, by rw [HNEXT.out, HTW.out]; rfl, .inl HK10.out, HB2.out⟩
                  case measure => simp [intOf]; omega
                · have g1 : (p.k == 10) = true := by simp [e1]
                  have g2 : (p.ts == o.ts) = true := by simp [e2]
                  have g3 : (p.ta == o.ta) = false := by simp [e3]
                  have HTW := Lib.hid (by unfold twin; simp [e1, e2, e3] : twin p o = false)
                  clear e1 e2 e3
                  go_wp2
                  refine region_lit (C := fun W => Below wr.heap.size wr W) (by kernel_rfl) (by kernel_rfl) (Below.refl _ _).drew ?_
                  repeat (
                    first
                      | (refine wpQuiet_step (fun K hK => ?_)
                         go_simp
                         first
                           | (refine hK _ ?_; clear hK K)
                           | (apply Exists.intro
                              refine ⟨fun W hW => ?_, hK _ ?_⟩
                              · obtain ⟨q0, q1, q2, q3, q4, q5, q6, q7, q8, q9, q10, q11⟩ := c12 (rangeAt_below HRW.out hW (rangeAt_lt HRW.out))
                                obtain ⟨p0, p1, p2, p3, p4, p5, p6, p7, p8, p9, p10, p11⟩ := c12 (rangeAt_below HRP.out hW (rangeAt_lt HRP.out))
                                first
                                  | (go_simp; exact rfl)
                                  | (go_simp; exact ⟨rfl, rfl⟩)
                              clear hK K)))
                  refine wpQuiet_nil ?_
                  intro W1 hW1
                  have HB2 := Lib.hid (HB.out.trans (hW1.mono (by omega)))
                  clear q0 q1 q2 q3 q4 q5 q6 q7 q8 q9 q10 q11
                  go_wp2
                  go_roundw
                  case rel => exact ⟨m + 1, by omega, by omega, by go_num, by rw [HNEXT.out, HTW.out]; rfl, .inl HK10.out, HB2.out⟩
                  case measure => simp [intOf]; omega
                · have g1 : (p.k == 10) = true := by simp [e1]
                  have g2 : (p.ts == o.ts) = true := by simp [e2]
                  have g3 : (p.ta == o.ta) = true := by simp [e3]
                  have g4 : (p.j == o.j) = false := by simp [e4]
                  have HTW := Lib.hid (by unfold twin; simp [e1, e2, e3, e4] : twin p o = false)
                  clear e1 e2 e3 e4
                  go_wp2
                  refine region_lit (C := fun W => Below wr.heap.size wr W) (by kernel_rfl) (by kernel_rfl) (Below.refl _ _).drew ?_
                  repeat (
                    first
                      | (refine wpQuiet_step (fun K hK => ?_)
                         go_simp
                         first
                           | (refine hK _ ?_; clear hK K)
                           | (apply Exists.intro
                              refine ⟨fun W hW => ?_, hK _ ?_⟩
                              · obtain ⟨q0, q1, q2, q3, q4, q5, q6, q7, q8, q9, q10, q11⟩ := c12 (rangeAt_below HRW.out hW (rangeAt_lt HRW.out))
                                obtain ⟨p0, p1, p2, p3, p4, p5, p6, p7, p8, p9, p10, p11⟩ := c12 (rangeAt_below HRP.out hW (rangeAt_lt HRP.out))
                                first
                                  | (go_simp; exact rfl)
                                  | (go_simp; exact ⟨rfl, rfl⟩)
                              clear hK K)))
                  refine wpQuiet_nil ?_
                  intro W1 hW1
                  have HB2 := Lib.hid (HB.out.trans (hW1.mono (by omega)))
                  clear q0 q1 q2 q3 q4 q5 q6 q7 q8 q9 q10 q11
                  go_wp2
                  go_roundw
                  case rel => exact ⟨m + 1, by omega, by omega, by go_num, by rw [HNEXT.out, HTW.out]; rfl, .inl HK10.out, HB2.out⟩
                  case measure => simp [intOf]; omega
                · have g1 : (p.k == 10) = true := by simp [e1]
                  have g2 : (p.ts == o.ts) = true := by simp [e2]
                  have g3 : (p.ta == o.ta) = true := by simp [e3]
                  have g4 : (p.j == o.j) = true := by simp [e4]
                  have HTW := Lib.hid (by unfold twin; simp [e1, e2, e3, e4] : twin p o = true)
                  clear e1 e2 e3 e4
                  go_wp2
                  refine region_lit (C := fun W => Below wr.heap.size wr W) (by kernel_rfl) (by kernel_rfl) (Below.refl _ _).drew ?_
                  repeat (
                    first
                      | (refine wpQuiet_step (fun K hK => ?_)
                         go_simp
                         first
                           | (refine hK _ ?_; clear hK K)
                           | (apply Exists.intro
                              refine ⟨fun W hW => ?_, hK _ ?_⟩
                              · obtain ⟨q0, q1, q2, q3, q4, q5, q6, q7, q8, q9, q10, q11⟩ := c12 (rangeAt_below HRW.out hW (rangeAt_lt HRW.out))
                                obtain ⟨p0, p1, p2, p3, p4, p5, p6, p7, p8, p9, p10, p11⟩ := c12 (rangeAt_below HRP.out hW (rangeAt_lt HRP.out))
                                first
                                  | (go_simp; exact rfl)
                                  | (go_simp; exact ⟨rfl, rfl⟩)
                              clear hK K)))
                  refine wpQuiet_nil ?_
                  intro W1 hW1
                  have HB2 := Lib.hid (HB.out.trans (hW1.mono (by omega)))
                  clear q0 q1 q2 q3 q4 q5 q6 q7 q8 q9 q10 q11
                  go_wp2
                  go_roundw
                  case rel => exact ⟨m + 1, by omega, by omega, by go_num, by rw [HNEXT.out, HTW.out]; rfl, .inl HK10.out, HB2.out⟩
                  case measure => simp [intOf]; omega
              · clear HRP
                go_wp2
                refine region_lit (C := fun W => Below wr.heap.size wr W) (by kernel_rfl) (by kernel_rfl) (Below.refl _ _).drew ?_
                repeat (
                  first
                    | (refine wpQuiet_step (fun K hK => ?_)
                       go_simp
                       first
                         | (refine hK _ ?_; clear hK K)
                         | (apply Exists.intro
                            refine ⟨fun W hW => ?_, hK _ ?_⟩
                            · obtain ⟨q0, q1, q2, q3, q4, q5, q6, q7, q8, q9, q10, q11⟩ := c12 (rangeAt_below HRW.out hW (rangeAt_lt HRW.out))
                              first
                                | (go_simp; exact rfl)
                                | (go_simp; exact ⟨rfl, rfl⟩)
                            clear hK K)))
                refine wpQuiet_nil ?_
                intro W1 hW1
                have HB2 := Lib.hid (HB.out.trans (hW1.mono (by omega)))
                clear q0 q1 q2 q3 q4 q5 q6 q7 q8 q9 q10 q11
                go_wp2
                go_roundw
                case rel => exact ⟨m + 1, by omega, by omega, by go_num, by rw [HNEXT.out]; rfl, .inl HK10.out, HB2.out⟩
                case measure => simp [intOf]; omega
            · have gk : (o.k == 10) = false := by simp [hk10]
              have hmk : m = k + 1 := by rcases hor.out with h | h; exact absurd h hk10; exact h
              have hflf : fl = false := by rw [← HFL.out, hmk]; exact later_none os (Nat.le_refl _)
              have HKP := Lib.hid (by rw [HN.out, ← HO.out]; simp [hk10] : need os (os.getD k zop) = true)
              subst hflf
              clear hk10 hmk
              have HOW2 := Lib.hid (HOW.out.below HB.out)
              go_wp2_with (first
                | (refine loadI rfl _ rfl rfl HRW.out ?_)
                | (with_reducible refine appendO (o := o) rfl _ _ rfl rfl rfl HOW2.out hlen hsz1 ?_; intro v2 w2 hown2 hb2 hsz2))
              go_roundw
              case rel => exact ⟨k + 1, by omega, by go_num, by rw [keep_yes HKP.out, ← HO.out]; exact hown2, (HNX.out.trans (HB.out.mono (by omega))).trans hb2⟩
              case measure => simp [intOf]; omega
          · obtain rfl : m = os.length := by omega
            have HKP := Lib.hid (show need os (os.getD k zop) = !fl from by
              rw [HN.out, ← HO.out, HFL.out]
              rcases hor.out with h | h
              · simp [h]
              · have : fl = false := by rw [← HFL.out, h]; exact later_none os (Nat.le_refl _)
                simp [this])
            have HOW2 := Lib.hid (HOW.out.below HB.out)
            cases fl
            · go_wp2_with (first
                | (refine loadI rfl _ rfl rfl HRW.out ?_)
                | (with_reducible refine appendO (o := o) rfl _ _ rfl rfl rfl HOW2.out hlen hsz1 ?_; intro v2 w2 hown2 hb2 hsz2))
              go_roundw
              case rel => exact ⟨k + 1, by omega, by go_num, by rw [keep_yes HKP.out, ← HO.out]; exact hown2, (HNX.out.trans (HB.out.mono (by omega))).trans hb2⟩
              case measure => simp [intOf]; omega
            · go_wp2
              go_roundw
              case rel => exact ⟨k + 1, by omega, by go_num, by rw [keep_no HKP.out]; exact HOW2.out, HNX.out.trans (HB.out.mono (by omega))⟩
              case measure => simp [intOf]; omega
      · obtain rfl : k = os.length := by omega
        go_wp2
        go_ret
        exact OwnsO.gives hown hnx

end Go.Proofs.Ytdbnflgckcjlcaa.ClC
