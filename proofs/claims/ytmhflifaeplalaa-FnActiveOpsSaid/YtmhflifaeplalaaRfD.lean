/-
  The walk of the law FnActiveOps: it returns true, whatever the bytes. No condition.
-/
import Derived.Test.YtmhflifaeplalaaRfC
import Derived.Test.YtmhflifaeplalaaK4
import Derived.Test.YtmhflifaeplalaaLiC
import Derived.Test.YtmhflifaeplalaaK2
import Derived.Outline
namespace Go.Proofs.Ytmhflifaeplalaa.RfD
open Go.RowKit Go.Proofs.Ytmhflifaeplalaa.Base Go.Proofs.Ytmhflifaeplalaa.OpA Go.Proofs.Ytmhflifaeplalaa.OpB Go.Proofs.Ytmhflifaeplalaa.LgA Go.Proofs.Ytmhflifaeplalaa.LgB Go.Proofs.Ytmhflifaeplalaa.LgC Go.Proofs.Ytmhflifaeplalaa.LgF Go.Proofs.Ytmhflifaeplalaa.LgH Go.Proofs.Ytmhflifaeplalaa.LgI Go.Proofs.Ytmhflifaeplalaa.LgP Go.Proofs.Ytmhflifaeplalaa.LiA Go.Proofs.Ytmhflifaeplalaa.LiB Go.Proofs.Ytmhflifaeplalaa.LiC Go.Proofs.Ytmhflifaeplalaa.RdA Go.Proofs.Ytmhflifaeplalaa.RdB Go.Proofs.Ytmhflifaeplalaa.RdD Go.Proofs.Ytmhflifaeplalaa.RfC
set_option linter.unusedVariables false
attribute [local go_sem ↓] Go.wp_at_zero Go.wp_at_succ
attribute [local irreducible] Go.wpQuiet

/-- A log that is drawn out of bytes. -/
def Drawn (w : World) (e : Ending) (w' : World) : Prop :=
  (∃ (A : Option Addr) (c : Nat) (os : List OpV), e = .returned (.slice A os.length c) ∧ RowO w.heap.size w' A c os.length (fun i => os.getD i zop) ∧ os.length ≤ 29 ∧ ∀ k, k < os.length → (os.getD k zop).tx.size ≤ 8) ∧ Below w.heap.size w w'

theorem drawLog (a : Option Addr) (cap : Nat) (xs : List Int) (w : World) (rx : RdB w a xs) (hx : xs.length ≤ cap) :
    Calls Try.prog 30 #[.slice a xs.length cap] w (Drawn w) := by
  have HN := Lib.hid (newReader a cap xs w rx hx)
  clear rx
  go_enter Try.func30, Try.ntmps30
  go_wp2_with fail
  refine HN.out.mono ?_
  rintro e w1 ⟨rfl, ⟨a1, c1, zs, hs⟩, b1, hz⟩
  have HA := Lib.hid (anyLog (w.heap.size + 1) w.heap.size a1 c1 0 zs w1 hs (by omega) (by omega))
  clear hs HN
  go_wp2_with fail
  refine HA.out.mono ?_
  rintro e w2 ⟨⟨A, c, os, rfl, hrow, hlen, ht⟩, _, hw⟩
  have B2 : Below w.heap.size w w2 := b1.trans (hw.below (by omega) (Nat.le_refl _))
  have HRow := Lib.hid hrow
  have HT := Lib.hid ht
  clear hrow ht HA
  go_wp2
  go_ret
  refine ⟨⟨A, c, os, rfl, ?_, hlen, HT.out⟩, B2⟩
  rcases HRow.out with h | ⟨b, ha, hl, h⟩
  · exact .inl h
  · exact .inr ⟨b, ha, by omega, h⟩

theorem liv_step' (os : List OpV) {k t : Nat} (h : k ≤ t) : liv os k (t + 1 - (k + 1)) = if und (os.getD k zop) (os.getD t zop) then (os.getD t zop).en else liv os k (t - (k + 1)) := by
  rcases Nat.lt_or_ge k t with h1 | h1
  · exact liv_step os (by omega)
  · obtain rfl : k = t := by omega
    have e : und (os.getD k zop) (os.getD k zop) = false := by
      unfold und
      generalize decide ((os.getD k zop).k = 10) = d
      cases d <;> simp
    rw [e, show k + 1 - (k + 1) = 0 by omega, show k - (k + 1) = 0 by omega]
    rfl

set_option maxRecDepth 100000 in
set_option maxHeartbeats 8000000 in
theorem walkFnActiveOps (a0 : Option Addr) (len0 cap0 : Nat) (z0 : List Int) (w : World) (r0 : IsRow .u8 w a0 len0 cap0 z0) :
    Calls Try.prog 10 #[.slice a0 len0 cap0] w fun e w' => e = .returned (.bool true) ∧ Below w.heap.size w w' := by
  obtain ⟨xs, rfl, hx, rx⟩ := bytes_rd r0
  clear r0
  by_cases l0 : (1048576 : Int) < (xs.length : Int)
  · clear rx
    go_enter Try.func10, Try.ntmps10
    go_wp2
    go_ret
    exact ⟨rfl, Below.refl _ _⟩
  have HD := Lib.hid (drawLog a0 cap0 xs w rx hx)
  clear rx hx
  go_enter Try.func10, Try.ntmps10
  go_wp2_with fail
  refine HD.out.mono ?_
  rintro e w1 ⟨⟨A, c, os, rfl, hrow, hlen, ht⟩, b1⟩
  have hz1 := b1.size
  have htm : ∀ k, k < os.length → (os.getD k zop).tx.size ≤ maxLen := fun k hk => by have := ht k hk; unfold maxLen; omega
  have HI := Lib.hid (impl_ActiveOps A c os w1 hrow.rd (by omega) htm)
  have HS := Lib.hid (fun W (hb : Below w1.heap.size w1 W) => spec_ActiveOps A c os W (hrow.rd.below hb) (by omega) htm)
  have HV := Lib.hid (fun W (hb : Below w1.heap.size w1 W) => impl_ValidLog ivop A c os W (hrow.rd.below hb) (by omega) htm)
  have HRow := Lib.hid hrow
  have HB1 := Lib.hid b1
  clear hrow ht htm HD b1 l0
  obtain ⟨res, hres⟩ : ∃ res, res = act os := ⟨_, rfl⟩
  rw [← hres] at HI HS
  have HRES := Lib.hid hres
  clear hres
  go_wp2_with fail
  refine HI.out.mono ?_
  rintro e w2 ⟨a2, c2, rfl, row2, b2⟩
  have HR2 := Lib.hid row2
  have HB2 := Lib.hid b2
  clear row2 b2 HI
  go_wp2_with fail
  refine (HS.out _ HB2.out).mono ?_
  rintro e w3 ⟨a3, c3, rfl, row3, b3⟩
  have HR3 := Lib.hid row3
  have HB3 := Lib.hid (HB2.out.trans (b3.mono HB2.out.size))
  have HR2' := Lib.hid (show RowBo w1.heap.size w3 a2 c2 res.length (fun i => res.getD i false) from (by
    rcases HR2.out with h | ⟨b, ha, hl, h⟩
    · exact .inl h
    · exact .inr ⟨b, ha, hl, h.below b3⟩))
  clear row3 b3 HS HR2
  go_wp2_with fail
  refine (HV.out _ HB3.out).mono ?_
  rintro e w4 ⟨rfl, b4⟩
  have HB4 := Lib.hid (HB3.out.trans (b4.mono HB3.out.size))
  have HR2 := Lib.hid (show RowBo w1.heap.size w4 a2 c2 res.length (fun i => res.getD i false) from (by
    rcases HR2'.out with h | ⟨b, ha, hl, h⟩
    · exact .inl h
    · exact .inr ⟨b, ha, hl, h.below b4⟩))
  have HR3' := Lib.hid (show RowBo w2.heap.size w4 a3 c3 res.length (fun i => res.getD i false) from (by
    rcases HR3.out with h | ⟨b, ha, hl, h⟩
    · exact .inl h
    · exact .inr ⟨b, ha, hl, h.below b4⟩))
  have HRD := Lib.hid (HRow.out.rd.below HB4.out)
  have HBB := Lib.hid (HB1.out.trans (HB4.out.mono hz1))
  clear b4 HV HR2' HR3 HRow HB1 HB2 HB3 HB4 hz1
  obtain ⟨ok, hok⟩ : ∃ ok, vlog os = ok := ⟨_, rfl⟩
  rw [hok]
  have HOK := Lib.hid hok
  clear hok
  cases ok
  · go_wp2
    go_ret
    exact ⟨rfl, HBB.out⟩
  have hlr : res.length = os.length := by rw [HRES.out, act, HOK.out, if_pos rfl, actv_len]
  have HGet := Lib.hid (fun (i : Nat) (hi : i < os.length) => (by rw [HRES.out, act, HOK.out, if_pos rfl, actv_get os hi] : res.getD i false = liv os i (os.length - (i + 1))))
  have hl1 : (res.length : Int) ≤ (os.length : Int) := by omega
  have hl2 : (os.length : Int) ≤ (res.length : Int) := by omega
  have hl3 : ((res.length : Int) == (os.length : Int)) = true := by simp [hlr]
  have HLR := Lib.hid hlr
  clear hlr HRES HOK
  go_wp2
  go_loopw [6] (fun i wr => ∃ k : Nat, k ≤ os.length ∧ i = .int .i64 k ∧ Below w4.heap.size w4 wr) (fun i _ => os.length - (intOf i).toNat)
  case atStart => exact ⟨0, Nat.zero_le _, rfl, Below.refl _ _⟩
  case round =>
    obtain ⟨k, hk, rfl, hnx⟩ := hrel
    by_cases hlt : k < os.length
    · rcases HRD.out with h0 | ⟨b, off, rfl, hc⟩
      · rw [h0] at hlt; cases hlt
      have HC := Lib.hid hc
      obtain ⟨o, ho⟩ : ∃ o, o = os.getD k zop := ⟨_, rfl⟩
      have HRO := Lib.hid (by rw [ho]; exact rangeAt_below (hc k hlt) hnx (rangeAt_lt (hc k hlt)) : wr.rangeAt b (off + k * 12) (opL o))
      have HSTEP := Lib.hid (fun t (h : k ≤ t) => liv_step' os h)
      have HO := Lib.hid ho
      have HNX := Lib.hid hnx
      have HL0 := Lib.hid (show true = liv os k (k - (k + 1)) by rw [show k - (k + 1) = 0 by omega]; rfl)
      obtain ⟨W0, hW0⟩ : ∃ W0, W0 = wr := ⟨_, rfl⟩
      subst hW0
      clear ho hc hnx
      have hk0 : (0 : Int) ≤ (k : Int) := Int.natCast_nonneg _
      have hk1 : (k : Int) < (os.length : Int) := by omega
      have hk2 : (k : Int) < (res.length : Int) := by omega
      go_wp2
      go_loopw [7, 8] (fun live i wr => ∃ t : Nat, k ≤ t ∧ t ≤ os.length ∧ live = .bool (liv os k (t - (k + 1))) ∧ i = .int .i64 t ∧ Below W0.heap.size W0 wr) (fun _ i _ => os.length - (intOf i).toNat)
      case atStart => exact ⟨k, Nat.le_refl _, hk, congrArg Value.bool HL0.out, rfl, Below.refl _ _⟩
      case round =>
        obtain ⟨t, ht1, ht2, rfl, rfl, hnx2⟩ := hrel
        by_cases hlt2 : t < os.length
        · obtain ⟨q, hq⟩ : ∃ q, q = os.getD t zop := ⟨_, rfl⟩
          have HRP := Lib.hid (by rw [hq]; exact rangeAt_below (HC.out t hlt2) (HNX.out.trans (hnx2.mono HNX.out.size)) (rangeAt_lt (HC.out t hlt2)) : wr.rangeAt b (off + t * 12) (opL q))
          have HR := Lib.hid (rangeAt_below HRO.out hnx2 (rangeAt_lt HRO.out))
          have hst := HSTEP.out t ht1
          rw [← HO.out, ← hq] at hst
          obtain ⟨lv, hlv⟩ : ∃ lv, liv os k (t - (k + 1)) = lv := ⟨_, rfl⟩
          rw [hlv] at hst ⊢
          clear hq hlv
          have ht0 : (0 : Int) ≤ (t : Int) := Int.natCast_nonneg _
          have ht3 : (t : Int) < (os.length : Int) := by omega
          rcases (show (o.k = 10) ∨ (¬ o.k = 10 ∧ ¬ q.k = 10) ∨ (¬ o.k = 10 ∧ q.k = 10 ∧ ¬ q.ts = o.i) ∨ (¬ o.k = 10 ∧ q.k = 10 ∧ q.ts = o.i ∧ ¬ q.ta = o.j) ∨ (¬ o.k = 10 ∧ q.k = 10 ∧ q.ts = o.i ∧ q.ta = o.j ∧ ¬ q.j = o.j) ∨ (¬ o.k = 10 ∧ q.k = 10 ∧ q.ts = o.i ∧ q.ta = o.j ∧ q.j = o.j) by omega) with e4 | ⟨e4, e0⟩ | ⟨e4, e0, e1⟩ | ⟨e4, e0, e1, e2⟩ | ⟨e4, e0, e1, e2, e3⟩ | ⟨e4, e0, e1, e2, e3⟩
          · have hu : und o q = false := by
              unfold und
              simp [e4]
            rw [hu] at hst
            have HST := Lib.hid hst
            have gn : (o.k != 10) = false := by simp [e4]
            clear hst hu e4
            go_wp2
            refine region_lit (C := fun W => Below wr.heap.size wr W) (by kernel_rfl) (by kernel_rfl) (Below.refl _ _).drew ?_
            repeat (
              first
                | (refine wpQuiet_step (fun K hK => ?_)
                   go_simp
                   first
                     | (refine hK _ ?_; clear hK K)
                     | (apply Exists.intro
                        refine ⟨fun W hW => ?_, hK _ ?_⟩
                        · obtain ⟨x0, x1, x2, x3, x4, x5, x6, x7, x8, x9, x10, x11⟩ := c12 (rangeAt_below HR.out hW (rangeAt_lt HR.out))
                          obtain ⟨q0, q1, q2, q3, q4, q5, q6, q7, q8, q9, q10, q11⟩ := c12 (rangeAt_below HRP.out hW (rangeAt_lt HRP.out))
                          first
                            | (go_simp; exact rfl)
                            | (go_simp; exact ⟨rfl, rfl⟩)
                        clear hK K)))
            refine wpQuiet_nil ?_
            intro W1 hW1
            go_wp2
            go_roundw
            case rel => exact ⟨t + 1, by omega, by omega, congrArg Value.bool HST.out.symm, by go_num, hnx2.trans (hW1.mono hnx2.size)⟩
            case measure => simp [intOf]; omega
          · have hu : und o q = false := by
              unfold und
              simp [e4, e0]
            rw [hu] at hst
            have HST := Lib.hid hst
            have gn : (o.k != 10) = true := by simp [e4]
            have g0 : (q.k == 10) = false := by simp [e0]
            clear hst hu e4 e0
            go_wp2
            refine region_lit (C := fun W => Below wr.heap.size wr W) (by kernel_rfl) (by kernel_rfl) (Below.refl _ _).drew ?_
            repeat (
              first
                | (refine wpQuiet_step (fun K hK => ?_)
                   go_simp
                   first
                     | (refine hK _ ?_; clear hK K)
                     | (apply Exists.intro
                        refine ⟨fun W hW => ?_, hK _ ?_⟩
                        · obtain ⟨x0, x1, x2, x3, x4, x5, x6, x7, x8, x9, x10, x11⟩ := c12 (rangeAt_below HR.out hW (rangeAt_lt HR.out))
                          obtain ⟨q0, q1, q2, q3, q4, q5, q6, q7, q8, q9, q10, q11⟩ := c12 (rangeAt_below HRP.out hW (rangeAt_lt HRP.out))
                          first
                            | (go_simp; exact rfl)
                            | (go_simp; exact ⟨rfl, rfl⟩)
                        clear hK K)))
            refine wpQuiet_nil ?_
            intro W1 hW1
            go_wp2
            go_roundw
            case rel => exact ⟨t + 1, by omega, by omega, congrArg Value.bool HST.out.symm, by go_num, hnx2.trans (hW1.mono hnx2.size)⟩
            case measure => simp [intOf]; omega
          · have hu : und o q = false := by
              unfold und
              simp [e4, e0, e1]
            rw [hu] at hst
            have HST := Lib.hid hst
            have gn : (o.k != 10) = true := by simp [e4]
            have g0 : (q.k == 10) = true := by simp [e0]
            have g1 : (q.ts == o.i) = false := by simp [e1]
            clear hst hu e4 e0 e1
            go_wp2
            refine region_lit (C := fun W => Below wr.heap.size wr W) (by kernel_rfl) (by kernel_rfl) (Below.refl _ _).drew ?_
            repeat (
              first
                | (refine wpQuiet_step (fun K hK => ?_)
                   go_simp
                   first
                     | (refine hK _ ?_; clear hK K)
                     | (apply Exists.intro
                        refine ⟨fun W hW => ?_, hK _ ?_⟩
                        · obtain ⟨x0, x1, x2, x3, x4, x5, x6, x7, x8, x9, x10, x11⟩ := c12 (rangeAt_below HR.out hW (rangeAt_lt HR.out))
                          obtain ⟨q0, q1, q2, q3, q4, q5, q6, q7, q8, q9, q10, q11⟩ := c12 (rangeAt_below HRP.out hW (rangeAt_lt HRP.out))
                          first
                            | (go_simp; exact rfl)
                            | (go_simp; exact ⟨rfl, rfl⟩)
                        clear hK K)))
            refine wpQuiet_nil ?_
            intro W1 hW1
            go_wp2
            go_roundw
            case rel => exact ⟨t + 1, by omega, by omega, congrArg Value.bool HST.out.symm, by go_num, hnx2.trans (hW1.mono hnx2.size)⟩
            case measure => simp [intOf]; omega
          · have hu : und o q = false := by
              unfold und
              simp [e4, e0, e1, e2]
            rw [hu] at hst
            have HST := Lib.hid hst
            have gn : (o.k != 10) = true := by simp [e4]
            have g0 : (q.k == 10) = true := by simp [e0]
            have g1 : (q.ts == o.i) = true := by simp [e1]
            have g2 : (q.ta == o.j) = false := by simp [e2]
            clear hst hu e4 e0 e1 e2
            go_wp2
            refine region_lit (C := fun W => Below wr.heap.size wr W) (by kernel_rfl) (by kernel_rfl) (Below.refl _ _).drew ?_
            repeat (
              first
                | (refine wpQuiet_step (fun K hK => ?_)
                   go_simp
                   first
                     | (refine hK _ ?_; clear hK K)
                     | (apply Exists.intro
                        refine ⟨fun W hW => ?_, hK _ ?_⟩
                        · obtain ⟨x0, x1, x2, x3, x4, x5, x6, x7, x8, x9, x10, x11⟩ := c12 (rangeAt_below HR.out hW (rangeAt_lt HR.out))
                          obtain ⟨q0, q1, q2, q3, q4, q5, q6, q7, q8, q9, q10, q11⟩ := c12 (rangeAt_below HRP.out hW (rangeAt_lt HRP.out))
                          first
                            | (go_simp; exact rfl)
                            | (go_simp; exact ⟨rfl, rfl⟩)
                        clear hK K)))
            refine wpQuiet_nil ?_
            intro W1 hW1
            go_wp2
            go_roundw
            case rel => exact ⟨t + 1, by omega, by omega, congrArg Value.bool HST.out.symm, by go_num, hnx2.trans (hW1.mono hnx2.size)⟩
            case measure => simp [intOf]; omega
          · have hu : und o q = false := by
              unfold und
              simp [e4, e0, e1, e2, e3]
            rw [hu] at hst
            have HST := Lib.hid hst
            have gn : (o.k != 10) = true := by simp [e4]
            have g0 : (q.k == 10) = true := by simp [e0]
            have g1 : (q.ts == o.i) = true := by simp [e1]
            have g2 : (q.ta == o.j) = true := by simp [e2]
            have g3 : (q.j == o.j) = false := by simp [e3]
            clear hst hu e4 e0 e1 e2 e3
            go_wp2
            refine region_lit (C := fun W => Below wr.heap.size wr W) (by kernel_rfl) (by kernel_rfl) (Below.refl _ _).drew ?_
            repeat (
              first
                | (refine wpQuiet_step (fun K hK => ?_)
                   go_simp
                   first
                     | (refine hK _ ?_; clear hK K)
                     | (apply Exists.intro
                        refine ⟨fun W hW => ?_, hK _ ?_⟩
                        · obtain ⟨x0, x1, x2, x3, x4, x5, x6, x7, x8, x9, x10, x11⟩ := c12 (rangeAt_below HR.out hW (rangeAt_lt HR.out))
                          obtain ⟨q0, q1, q2, q3, q4, q5, q6, q7, q8, q9, q10, q11⟩ := c12 (rangeAt_below HRP.out hW (rangeAt_lt HRP.out))
                          first
                            | (go_simp; exact rfl)
                            | (go_simp; exact ⟨rfl, rfl⟩)
                        clear hK K)))
            refine wpQuiet_nil ?_
            intro W1 hW1
            go_wp2
            go_roundw
            case rel => exact ⟨t + 1, by omega, by omega, congrArg Value.bool HST.out.symm, by go_num, hnx2.trans (hW1.mono hnx2.size)⟩
            case measure => simp [intOf]; omega
          · have hu : und o q = true := by
              unfold und
              simp [e4, e0, e1, e2, e3]
            rw [hu] at hst
            have HST := Lib.hid hst
            have gn : (o.k != 10) = true := by simp [e4]
            have g0 : (q.k == 10) = true := by simp [e0]
            have g1 : (q.ts == o.i) = true := by simp [e1]
            have g2 : (q.ta == o.j) = true := by simp [e2]
            have g3 : (q.j == o.j) = true := by simp [e3]
            clear hst hu e4 e0 e1 e2 e3
            go_wp2
            refine region_lit (C := fun W => Below wr.heap.size wr W) (by kernel_rfl) (by kernel_rfl) (Below.refl _ _).drew ?_
            repeat (
              first
                | (refine wpQuiet_step (fun K hK => ?_)
                   go_simp
                   first
                     | (refine hK _ ?_; clear hK K)
                     | (apply Exists.intro
                        refine ⟨fun W hW => ?_, hK _ ?_⟩
                        · obtain ⟨x0, x1, x2, x3, x4, x5, x6, x7, x8, x9, x10, x11⟩ := c12 (rangeAt_below HR.out hW (rangeAt_lt HR.out))
                          obtain ⟨q0, q1, q2, q3, q4, q5, q6, q7, q8, q9, q10, q11⟩ := c12 (rangeAt_below HRP.out hW (rangeAt_lt HRP.out))
                          first
                            | (go_simp; exact rfl)
                            | (go_simp; exact ⟨rfl, rfl⟩)
                        clear hK K)))
            refine wpQuiet_nil ?_
            intro W1 hW1
            obtain ⟨q0, q1, q2, q3, q4, q5, q6, q7, q8, q9, q10, q11⟩ := c12 (rangeAt_below HRP.out hW1 (rangeAt_lt HRP.out))
            go_wp2
            go_roundw
            case rel => exact ⟨t + 1, by omega, by omega, congrArg Value.bool HST.out.symm, by go_num, hnx2.trans (hW1.mono hnx2.size)⟩
            case measure => simp [intOf]; omega
        · obtain rfl : t = os.length := by omega
          have hnx3 := HNX.out.trans (hnx2.mono HNX.out.size)
          have HNX3 := Lib.hid hnx3
          rcases HR2.out with ⟨_, h0⟩ | ⟨bl, rfl, hbl, ol⟩
          · omega
          rcases HR3'.out with ⟨_, h0⟩ | ⟨bw, rfl, hbw, ow⟩
          · omega
          have hg := HGet.out k hlt
          have cl : ∀ W, Below w4.heap.size w4 W → W.cell? ⟨bl, k, none⟩ = some (.bool (liv os k (os.length - (k + 1)))) := fun W hW => by rw [← hg]; exact (ol.below hW).cell (by omega)
          have cw : ∀ W, Below w4.heap.size w4 W → W.cell? ⟨bw, k, none⟩ = some (.bool (liv os k (os.length - (k + 1)))) := fun W hW => by rw [← hg]; exact (ow.below hW).cell (by omega)
          have CL := Lib.hid cl
          have CW := Lib.hid cw
          clear cl cw hg ol ow hnx3 HSTEP HL0
          generalize liv os k (os.length - (k + 1)) = lv at CL CW
          cases lv
          · go_wp2
            refine region_lit (C := fun W => Below w4.heap.size w4 W) (by kernel_rfl) (by kernel_rfl) HNX3.out.drew ?_
            repeat (
              first
                | (refine wpQuiet_step (fun K hK => ?_)
                   go_simp
                   first
                     | (refine hK _ ?_; clear hK K)
                     | (apply Exists.intro
                        refine ⟨fun W hW => ?_, hK _ ?_⟩
                        · have y0 := CL.out W hW
                          have y1 := CW.out W hW
                          first
                            | (go_simp; exact rfl)
                            | (go_simp; exact ⟨rfl, rfl⟩)
                        clear hK K)))
            refine wpQuiet_nil ?_
            intro W1 hW1
            go_wp2
            go_roundw
            case rel => exact ⟨k + 1, by omega, by go_num, hW1⟩
            case measure => simp [intOf]; omega
          · go_wp2
            refine region_lit (C := fun W => Below w4.heap.size w4 W) (by kernel_rfl) (by kernel_rfl) HNX3.out.drew ?_
            repeat (
              first
                | (refine wpQuiet_step (fun K hK => ?_)
                   go_simp
                   first
                     | (refine hK _ ?_; clear hK K)
                     | (apply Exists.intro
                        refine ⟨fun W hW => ?_, hK _ ?_⟩
                        · have y0 := CL.out W hW
                          have y1 := CW.out W hW
                          first
                            | (go_simp; exact rfl)
                            | (go_simp; exact ⟨rfl, rfl⟩)
                        clear hK K)))
            refine wpQuiet_nil ?_
            intro W1 hW1
            go_wp2
            go_roundw
            case rel => exact ⟨k + 1, by omega, by go_num, hW1⟩
            case measure => simp [intOf]; omega
    · obtain rfl : k = os.length := by omega
      go_wp2
      go_ret
      exact ⟨rfl, HBB.out.trans (hnx.mono HBB.out.size)⟩

end Go.Proofs.Ytmhflifaeplalaa.RfD
