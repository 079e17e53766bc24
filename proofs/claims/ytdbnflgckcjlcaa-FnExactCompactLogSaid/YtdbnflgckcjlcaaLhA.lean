/-
  insertOp of the model: its contract. For slices that read as a list of at most 2^20 operations.
-/
import Derived.Test.YtdbnflgckcjlcaaK5
import Derived.Outline
namespace Go.Proofs.Ytdbnflgckcjlcaa.LhA
open Go.RowKit Go.Proofs.Ytdbnflgckcjlcaa.Base Go.Proofs.Ytdbnflgckcjlcaa.St Go.Proofs.Ytdbnflgckcjlcaa.StB Go.Proofs.Ytdbnflgckcjlcaa.OpA Go.Proofs.Ytdbnflgckcjlcaa.OpB Go.Proofs.Ytdbnflgckcjlcaa.LgA Go.Proofs.Ytdbnflgckcjlcaa.LgB Go.Proofs.Ytdbnflgckcjlcaa.LgC Go.Proofs.Ytdbnflgckcjlcaa.LgF Go.Proofs.Ytdbnflgckcjlcaa.LgP Go.Proofs.Ytdbnflgckcjlcaa.LgQ Go.Proofs.Ytdbnflgckcjlcaa.LgR Go.Proofs.Ytdbnflgckcjlcaa.LgZ
set_option linter.unusedVariables false
attribute [local go_sem ↓] Go.wp_at_zero Go.wp_at_succ
attribute [local irreducible] Go.wpQuiet

theorem step_at (o : OpV) (K : List OpV → List OpV) : ∀ (k : Nat) (os : List OpV), k ≤ os.length → (∀ i, i < k → lt (os.getD i zop) o = true) → mstep o K os = os.take k ++ mstep o K (os.drop k)
  | 0, os, _, _ => by simp
  | k + 1, [], h, _ => by simp at h
  | k + 1, x :: r, h, hh => by
    have h0 : lt x o = true := hh 0 (by omega)
    rw [mstep, if_pos h0, step_at o K k r (by simpa using h) (fun i hi => hh (i + 1) (by omega))]
    rfl
theorem drop_cons (os : List OpV) (k : Nat) (h : k < os.length) : os.drop k = os.getD k zop :: os.drop (k + 1) := by
  rw [List.drop_eq_getElem_cons h, List.getD_eq_getElem?_getD, List.getElem?_eq_getElem h]
  rfl
/-- The operation is there already. -/
theorem step_same (o : OpV) (os : List OpV) (k : Nat) (hk : k < os.length) (hh : ∀ i, i < k → lt (os.getD i zop) o = true) (e1 : (os.getD k zop).i = o.i) (e2 : (os.getD k zop).j = o.j) : mstep o id os = os := by
  have h1 : lt (os.getD k zop) o = false := by
    generalize os.getD k zop = x at e1 e2
    simp [lt, slt, e1, e2]
  have h2 : lt o (os.getD k zop) = false := by
    generalize os.getD k zop = x at e1 e2
    simp [lt, slt, e1, e2]
  rw [step_at o id k os (by omega) hh, drop_cons os k hk, mstep]
  rw [if_neg (by rw [h1]; exact Bool.false_ne_true), if_neg (by rw [h2]; exact Bool.false_ne_true)]
  show os.take k ++ (os.getD k zop :: os.drop (k + 1)) = os
  rw [← drop_cons os k hk, List.take_append_drop]
/-- It goes in at place k. -/
theorem step_in (o : OpV) (os : List OpV) (k : Nat) (hk : k ≤ os.length) (hh : ∀ i, i < k → lt (os.getD i zop) o = true) (h : k = os.length ∨ (lt (os.getD k zop) o = false ∧ ¬ ((os.getD k zop).i = o.i ∧ (os.getD k zop).j = o.j))) :
    mstep o id os = [] ++ os.take k ++ [o] ++ os.drop k := by
  rw [step_at o id k os hk hh]
  have : mstep o id (os.drop k) = o :: os.drop k := by
    by_cases e : k = os.length
    · subst e; simp [mstep]
    · rcases h with h | ⟨h1, h2⟩
      · exact absurd h e
      · rw [drop_cons os k (by omega), mstep, if_neg (by rw [h1]; exact Bool.false_ne_true), if_pos]
        · rfl
        · generalize os.getD k zop = x at h1 h2
          simp [lt, slt] at h1 h2 ⊢
          omega
  rw [this]
  simp
/-- The answer of insertOp: the log itself, or a slice of the call's own. -/
def InsR (w : World) (A : Option Addr) (c : Nat) (os ps : List OpV) (e : Ending) (w' : World) : Prop :=
  ∃ a' c', e = .returned (.slice a' ps.length c') ∧ ps.length ≤ c' ∧ RdO w' a' ps ∧ ((a' = A ∧ c' = c ∧ ps = os) ∨ OwnsO w' w.heap.size (.slice a' ps.length c') ps) ∧ Below w.heap.size w w'
theorem own_le {w : World} {lo : Nat} {a : Option Addr} {n c : Nat} {os : List OpV} (h : OwnsO w lo (.slice a n c) os) : os.length ≤ c := by
  rcases h.2 with ⟨h, h0⟩ | ⟨g, cap, cur, e, _, _, hn, _⟩
  · omega
  · injection e with _ _ e
    omega
theorem ins_own {w W : World} {A : Option Addr} {c : Nat} {os ps : List OpV} {v : Value} (h : OwnsO W w.heap.size v ps) (hb : Below w.heap.size w W) : InsR w A c os ps (.returned v) W := by
  obtain ⟨a', c', rfl, hr⟩ := ownedO h
  exact ⟨a', c', rfl, own_le h, hr.rd, .inr h, hb⟩
theorem specLt (q o : OpV) (r : Bool) (h : lt q o = r) (w : World) : Calls Try.prog 68 #[.agg #[.int .i64 q.i, .int .i64 q.j], .agg #[.int .i64 o.i, .int .i64 o.j]] w fun e w' => e = .returned (.bool r) ∧ Below w.heap.size w w' := specLess q.i q.j o.i o.j r h w
theorem at_ {w W0 W : World} {n : Nat} {o : OpV} (h : W0.rangeAt n 0 (opL o)) (hb : Below W0.heap.size W0 W) : W.rangeAt n 0 (opL o) := rangeAt_below h hb (rangeAt_lt h)

set_option maxRecDepth 100000 in
set_option maxHeartbeats 4000000 in
theorem spec_insertOp (A : Option Addr) (c : Nat) (os : List OpV) (o : OpV) (w : World) (hr : RdO w A os) (hl : os.length ≤ 1048576) (hc : os.length ≤ c) :
    Calls Try.prog 95 #[.slice A os.length c, .agg #[.int .i64 o.i, .int .i64 o.j, .int .i64 o.k, .int .i64 o.ts, .int .i64 o.ta, .int .i64 o.fs, .int .i64 o.fa, .int .i64 o.ns, .int .i64 o.na, .int .i64 o.v, .bool o.en, .string o.tx]] w (InsR w A c os (mstep o id os)) := by
  have HA := Lib.hid hr
  have HBX := Lib.hid (boxR w o)
  clear hr
  go_enter Try.func95, Try.ntmps95
  go_wp2
  go_loopw [5] (fun i wr => ∃ k : Nat, k ≤ os.length ∧ i = .int .i64 k ∧ Hid (∀ i, i < k → lt (os.getD i zop) o = true) ∧ Below w.heap.size w wr ∧ wr.rangeAt w.heap.size 0 (opL o)) (fun i _ => os.length - (intOf i).toNat)
  case atStart => exact ⟨0, Nat.zero_le _, rfl, fun i hi => absurd hi (by omega), (Below.refl _ _).alloc (Nat.le_refl _) _, HBX.out⟩
  case round =>
    obtain ⟨k, hkn, rfl, hall, hnx, hx⟩ := hrel
    have HX := Lib.hid hx
    clear hx
    by_cases hlt : k < os.length
    · rcases HA.out with h0 | ⟨b, off, rfl, hcc⟩
      · rw [h0] at hlt
        cases hlt
      obtain ⟨q, hq⟩ : ∃ q, q = os.getD k zop := ⟨_, rfl⟩
      have HR := Lib.hid (by rw [hq]; exact rangeAt_below (hcc k hlt) hnx (rangeAt_lt (hcc k hlt)) : wr.rangeAt b (off + k * 12) (opL q))
      have HQ := Lib.hid hq
      clear hq hcc
      have hk0 : (0 : Int) ≤ (k : Int) := Int.natCast_nonneg _
      have hk1 : (k : Int) < (os.length : Int) := by omega
      obtain ⟨r, hr⟩ : ∃ r, lt q o = r := ⟨_, rfl⟩
      have HL := Lib.hid (specLt q o r hr)
      have HLT := Lib.hid hr
      clear hr
      cases r
      · go_wp2
        refine region_lit (C := fun W => Below wr.heap.size wr W) (by kernel_rfl) (by kernel_rfl) (Below.refl _ _).drew ?_
        repeat (
          first
            | (refine wpQuiet_step (fun K hK => ?_)
               go_simp
               first
                 | (refine hK _ ?_; clear hK K)
                 | (apply Exists.intro
                    refine ⟨fun W hW => ?_, hK _ ?_⟩
                    · obtain ⟨x0, x1, x2, x3, x4, x5, x6, x7, x8, x9, x10, x11⟩ := c12 (rangeAt_below HX.out hW (rangeAt_lt HX.out))
                      obtain ⟨q0, q1, q2, q3, q4, q5, q6, q7, q8, q9, q10, q11⟩ := c12 (rangeAt_below HR.out hW (rangeAt_lt HR.out))
                      first
                        | (go_simp; exact rfl)
                        | (go_simp; exact ⟨rfl, rfl⟩)
                        | with_reducible exact (HL.out _).mono (fun e wn ⟨he, hbn⟩ => ⟨he, hW.trans (hbn.mono hW.size)⟩)
                        | with_reducible exact ⟨rfl, (HL.out _).mono (fun e wn ⟨he, hbn⟩ => ⟨he, hW.trans (hbn.mono hW.size)⟩)⟩
                    clear hK K)))
        refine wpQuiet_nil ?_
        intro W0 hW0
        have hB0 := hnx.trans (hW0.mono hnx.size)
        have HX2 := Lib.hid (rangeAt_below HX.out hW0 (rangeAt_lt HX.out))
        have HR2 := Lib.hid (rangeAt_below HR.out hW0 (rangeAt_lt HR.out))
        rcases (show (q.i = o.i ∧ q.j = o.j) ∨ (¬ q.i = o.i) ∨ (q.i = o.i ∧ ¬ q.j = o.j) from by omega) with ⟨e1, e2⟩ | e1 | ⟨e1, e2⟩
        · have HS := Lib.hid (step_same o os k hlt hall.out (by rw [← HQ.out]; exact e1) (by rw [← HQ.out]; exact e2))
          have g1 : (q.i == o.i) = true := by simp [e1]
          have g2 : (q.j == o.j) = true := by simp [e2]
          clear e1 e2
          go_wp2
          refine region_lit (C := fun W => Below W0.heap.size W0 W) (by kernel_rfl) (by kernel_rfl) (Below.refl _ _).drew ?_
          repeat (
            first
              | (refine wpQuiet_step (fun K hK => ?_)
                 go_simp
                 first
                   | (refine hK _ ?_; clear hK K)
                   | (apply Exists.intro
                      refine ⟨fun W hW => ?_, hK _ ?_⟩
                      · obtain ⟨x0, x1, x2, x3, x4, x5, x6, x7, x8, x9, x10, x11⟩ := c12 (rangeAt_below HX2.out hW (rangeAt_lt HX2.out))
                        obtain ⟨q0, q1, q2, q3, q4, q5, q6, q7, q8, q9, q10, q11⟩ := c12 (rangeAt_below HR2.out hW (rangeAt_lt HR2.out))
                        first
                          | (go_simp; exact rfl)
                          | (go_simp; exact ⟨rfl, rfl⟩)
                      clear hK K)))
          refine wpQuiet_nil ?_
          intro W1 hW1
          have hB1 := hB0.trans (hW1.mono hB0.size)
          have HF := Lib.hid (HA.out.below hB1)
          go_wp2
          go_ret
          rw [HS.out]
          exact ⟨_, _, rfl, hc, HF.out, .inl ⟨rfl, rfl, rfl⟩, hB1⟩
        · have HS := Lib.hid (step_in o os k hkn hall.out (.inr ⟨by rw [← HQ.out]; exact HLT.out, by rw [← HQ.out]; exact fun h => e1 h.1⟩))
          have g1 : (q.i == o.i) = false := by simp [e1]
          clear e1
          go_wp2
          refine region_lit (C := fun W => Below W0.heap.size W0 W) (by kernel_rfl) (by kernel_rfl) (Below.refl _ _).drew ?_
          repeat (
            first
              | (refine wpQuiet_step (fun K hK => ?_)
                 go_simp
                 first
                   | (refine hK _ ?_; clear hK K)
                   | (apply Exists.intro
                      refine ⟨fun W hW => ?_, hK _ ?_⟩
                      · obtain ⟨x0, x1, x2, x3, x4, x5, x6, x7, x8, x9, x10, x11⟩ := c12 (rangeAt_below HX2.out hW (rangeAt_lt HX2.out))
                        obtain ⟨q0, q1, q2, q3, q4, q5, q6, q7, q8, q9, q10, q11⟩ := c12 (rangeAt_below HR2.out hW (rangeAt_lt HR2.out))
                        first
                          | (go_simp; exact rfl)
                          | (go_simp; exact ⟨rfl, rfl⟩)
                      clear hK K)))
          refine wpQuiet_nil ?_
          intro W1 hW1
          have hB1 := hB0.trans (hW1.mono hB0.size)
          have HX3 := Lib.hid (rangeAt_below HX2.out hW1 (rangeAt_lt HX2.out))
          have hz1 := hB1.size
          have hzx : w.heap.size + 1 ≤ W1.heap.size := rangeAt_lt HX3.out
          have HE := Lib.hid (ownsO_empty W1 (w.heap.size + 1) hzx)
          have hBE : Below w.heap.size w (W1.alloc (.cells #[] 63)) := hB1.alloc hz1 _
          have HRE := Lib.hid (HA.out.below hBE)
          have HXE := Lib.hid (rangeAt_below HX3.out ((Below.refl W1.heap.size W1).alloc (Nat.le_refl _) (.cells #[] 63)) hzx)
          have hzE : w.heap.size + 1 ≤ (W1.alloc (.cells #[] 63)).heap.size := by simp; omega
          have HZE := Lib.hid hzE
          clear hzE
          go_wp2_with (first
            | (with_reducible refine sliceHi (k := k) rfl _ _ rfl rfl rfl hkn hc HRE.out ?_; intro A1 c1 hr1)
            | (with_reducible refine appendOs (ps := os.take k) rfl _ _ rfl rfl rfl HE.out hr1 (by simp; omega) HZE.out ?_; intro v1 w1 hown1 hb1 hz2; have hB2 := hBE.trans (hb1.mono (by omega)); have HX4 := Lib.hid (rangeAt_below HXE.out hb1 (by omega)))
            | (refine loadI rfl _ rfl rfl HX4.out ?_)
            | (with_reducible refine appendO (o := o) rfl _ _ rfl rfl rfl hown1 (by simp; omega) hz2 ?_; intro v2 w2 hown2 hb2 hz3; have hB3 := hB2.trans (hb2.mono (by omega)); have HR5 := Lib.hid (HA.out.below hB3))
            | (with_reducible refine sliceLo (k := k) rfl _ _ rfl rfl rfl hkn hc HR5.out ?_; intro A2 c2 hr2)
            | (with_reducible refine appendOs (ps := os.drop k) rfl _ _ rfl rfl rfl hown2 hr2 (by simp; omega) hz3 ?_; intro v3 w3 hown3 hb3 hz4; have hB4 := hB3.trans (hb3.mono (by omega))))
          go_ret
          rw [HS.out]
          exact ins_own (OwnsO.lower hown3 (by omega)) hB4
        · have HS := Lib.hid (step_in o os k hkn hall.out (.inr ⟨by rw [← HQ.out]; exact HLT.out, by rw [← HQ.out]; exact fun h => e2 h.2⟩))
          have g1 : (q.i == o.i) = true := by simp [e1]
          have g2 : (q.j == o.j) = false := by simp [e2]
          clear e1 e2
          go_wp2
          refine region_lit (C := fun W => Below W0.heap.size W0 W) (by kernel_rfl) (by kernel_rfl) (Below.refl _ _).drew ?_
          repeat (
            first
              | (refine wpQuiet_step (fun K hK => ?_)
                 go_simp
                 first
                   | (refine hK _ ?_; clear hK K)
                   | (apply Exists.intro
                      refine ⟨fun W hW => ?_, hK _ ?_⟩
                      · obtain ⟨x0, x1, x2, x3, x4, x5, x6, x7, x8, x9, x10, x11⟩ := c12 (rangeAt_below HX2.out hW (rangeAt_lt HX2.out))
                        obtain ⟨q0, q1, q2, q3, q4, q5, q6, q7, q8, q9, q10, q11⟩ := c12 (rangeAt_below HR2.out hW (rangeAt_lt HR2.out))
                        first
                          | (go_simp; exact rfl)
                          | (go_simp; exact ⟨rfl, rfl⟩)
                      clear hK K)))
          refine wpQuiet_nil ?_
          intro W1 hW1
          have hB1 := hB0.trans (hW1.mono hB0.size)
          have HX3 := Lib.hid (rangeAt_below HX2.out hW1 (rangeAt_lt HX2.out))
          have hz1 := hB1.size
          have hzx : w.heap.size + 1 ≤ W1.heap.size := rangeAt_lt HX3.out
          have HE := Lib.hid (ownsO_empty W1 (w.heap.size + 1) hzx)
          have hBE : Below w.heap.size w (W1.alloc (.cells #[] 63)) := hB1.alloc hz1 _
          have HRE := Lib.hid (HA.out.below hBE)
          have HXE := Lib.hid (rangeAt_below HX3.out ((Below.refl W1.heap.size W1).alloc (Nat.le_refl _) (.cells #[] 63)) hzx)
          have hzE : w.heap.size + 1 ≤ (W1.alloc (.cells #[] 63)).heap.size := by simp; omega
          have HZE := Lib.hid hzE
          clear hzE
          go_wp2_with (first
            | (with_reducible refine sliceHi (k := k) rfl _ _ rfl rfl rfl hkn hc HRE.out ?_; intro A1 c1 hr1)
            | (with_reducible refine appendOs (ps := os.take k) rfl _ _ rfl rfl rfl HE.out hr1 (by simp; omega) HZE.out ?_; intro v1 w1 hown1 hb1 hz2; have hB2 := hBE.trans (hb1.mono (by omega)); have HX4 := Lib.hid (rangeAt_below HXE.out hb1 (by omega)))
            | (refine loadI rfl _ rfl rfl HX4.out ?_)
            | (with_reducible refine appendO (o := o) rfl _ _ rfl rfl rfl hown1 (by simp; omega) hz2 ?_; intro v2 w2 hown2 hb2 hz3; have hB3 := hB2.trans (hb2.mono (by omega)); have HR5 := Lib.hid (HA.out.below hB3))
            | (with_reducible refine sliceLo (k := k) rfl _ _ rfl rfl rfl hkn hc HR5.out ?_; intro A2 c2 hr2)
            | (with_reducible refine appendOs (ps := os.drop k) rfl _ _ rfl rfl rfl hown2 hr2 (by simp; omega) hz3 ?_; intro v3 w3 hown3 hb3 hz4; have hB4 := hB3.trans (hb3.mono (by omega))))
          go_ret
          rw [HS.out]
          exact ins_own (OwnsO.lower hown3 (by omega)) hB4
      · go_wp2
        refine region_lit (C := fun W => Below wr.heap.size wr W) (by kernel_rfl) (by kernel_rfl) (Below.refl _ _).drew ?_
        repeat (
          first
            | (refine wpQuiet_step (fun K hK => ?_)
               go_simp
               first
                 | (refine hK _ ?_; clear hK K)
                 | (apply Exists.intro
                    refine ⟨fun W hW => ?_, hK _ ?_⟩
                    · obtain ⟨x0, x1, x2, x3, x4, x5, x6, x7, x8, x9, x10, x11⟩ := c12 (rangeAt_below HX.out hW (rangeAt_lt HX.out))
                      obtain ⟨q0, q1, q2, q3, q4, q5, q6, q7, q8, q9, q10, q11⟩ := c12 (rangeAt_below HR.out hW (rangeAt_lt HR.out))
                      first
                        | (go_simp; exact rfl)
                        | (go_simp; exact ⟨rfl, rfl⟩)
                        | with_reducible exact (HL.out _).mono (fun e wn ⟨he, hbn⟩ => ⟨he, hW.trans (hbn.mono hW.size)⟩)
                        | with_reducible exact ⟨rfl, (HL.out _).mono (fun e wn ⟨he, hbn⟩ => ⟨he, hW.trans (hbn.mono hW.size)⟩)⟩
                    clear hK K)))
        refine wpQuiet_nil ?_
        intro W0 hW0
        go_wp2
        go_roundw
        case rel =>
          refine ⟨k + 1, by omega, by go_num, fun i hi => ?_, hnx.trans (hW0.mono hnx.size), rangeAt_below HX.out hW0 (rangeAt_lt HX.out)⟩
          by_cases e : i = k
          · rw [e, ← HQ.out]; exact HLT.out
          · exact hall.out i (by omega)
        case measure => simp [intOf]; omega
    · have hk : k = os.length := by omega
      have HS := Lib.hid (step_in o os k hkn hall.out (.inl hk))
      have hlt' : ¬ (k : Int) < (os.length : Int) := by omega
      clear hk
      go_wp2
      refine region_lit (C := fun W => Below wr.heap.size wr W) (by kernel_rfl) (by kernel_rfl) (Below.refl _ _).drew ?_
      repeat (
        first
          | (refine wpQuiet_step (fun K hK => ?_)
             go_simp
             first
               | (refine hK _ ?_; clear hK K)
               | (apply Exists.intro
                  refine ⟨fun W hW => ?_, hK _ ?_⟩
                  · obtain ⟨x0, x1, x2, x3, x4, x5, x6, x7, x8, x9, x10, x11⟩ := c12 (rangeAt_below HX.out hW (rangeAt_lt HX.out))
                    first
                      | (go_simp; exact rfl)
                      | (go_simp; exact ⟨rfl, rfl⟩)
                  clear hK K)))
      refine wpQuiet_nil ?_
      intro W0 hW0
      have hB0 := hnx.trans (hW0.mono hnx.size)
      have HX2 := Lib.hid (rangeAt_below HX.out hW0 (rangeAt_lt HX.out))
      go_wp2
      refine region_lit (C := fun W => Below W0.heap.size W0 W) (by kernel_rfl) (by kernel_rfl) (Below.refl _ _).drew ?_
      repeat (
        first
          | (refine wpQuiet_step (fun K hK => ?_)
             go_simp
             first
               | (refine hK _ ?_; clear hK K)
               | (apply Exists.intro
                  refine ⟨fun W hW => ?_, hK _ ?_⟩
                  · obtain ⟨x0, x1, x2, x3, x4, x5, x6, x7, x8, x9, x10, x11⟩ := c12 (rangeAt_below HX2.out hW (rangeAt_lt HX2.out))
                    first
                      | (go_simp; exact rfl)
                      | (go_simp; exact ⟨rfl, rfl⟩)
                  clear hK K)))
      refine wpQuiet_nil ?_
      intro W1 hW1
      have hB1 := hB0.trans (hW1.mono hB0.size)
      have HX3 := Lib.hid (rangeAt_below HX2.out hW1 (rangeAt_lt HX2.out))
      have hz1 := hB1.size
      have hzx : w.heap.size + 1 ≤ W1.heap.size := rangeAt_lt HX3.out
      have HE := Lib.hid (ownsO_empty W1 (w.heap.size + 1) hzx)
      have hBE : Below w.heap.size w (W1.alloc (.cells #[] 63)) := hB1.alloc hz1 _
      have HRE := Lib.hid (HA.out.below hBE)
      have HXE := Lib.hid (rangeAt_below HX3.out ((Below.refl W1.heap.size W1).alloc (Nat.le_refl _) (.cells #[] 63)) hzx)
      have hzE : w.heap.size + 1 ≤ (W1.alloc (.cells #[] 63)).heap.size := by simp; omega
      have HZE := Lib.hid hzE
      clear hzE
      go_wp2_with (first
        | (with_reducible refine sliceHi (k := k) rfl _ _ rfl rfl rfl hkn hc HRE.out ?_; intro A1 c1 hr1)
        | (with_reducible refine appendOs (ps := os.take k) rfl _ _ rfl rfl rfl HE.out hr1 (by simp; omega) HZE.out ?_; intro v1 w1 hown1 hb1 hz2; have hB2 := hBE.trans (hb1.mono (by omega)); have HX4 := Lib.hid (rangeAt_below HXE.out hb1 (by omega)))
        | (refine loadI rfl _ rfl rfl HX4.out ?_)
        | (with_reducible refine appendO (o := o) rfl _ _ rfl rfl rfl hown1 (by simp; omega) hz2 ?_; intro v2 w2 hown2 hb2 hz3; have hB3 := hB2.trans (hb2.mono (by omega)); have HR5 := Lib.hid (HA.out.below hB3))
        | (with_reducible refine sliceLo (k := k) rfl _ _ rfl rfl rfl hkn hc HR5.out ?_; intro A2 c2 hr2)
        | (with_reducible refine appendOs (ps := os.drop k) rfl _ _ rfl rfl rfl hown2 hr2 (by simp; omega) hz3 ?_; intro v3 w3 hown3 hb3 hz4; have hB4 := hB3.trans (hb3.mono (by omega))))
      go_ret
      rw [HS.out]
      exact ins_own (OwnsO.lower hown3 (by omega)) hB4

end Go.Proofs.Ytdbnflgckcjlcaa.LhA
