/-
  ValidLog of the program: contracts of compareOps, opSet, ascending and ValidLog, out of ValidOp's. For slices that read as a list of at most 2^20 operations.
-/
import Derived.Test.YtkkeaimoplkliaaLgF
import Derived.Laws.EntriesVeiled
import Derived.Outline
namespace Go.Proofs.Ytkkeaimoplkliaa.LgG
open Go.RowKit Go.Proofs.Ytkkeaimoplkliaa.Base Go.Proofs.Ytkkeaimoplkliaa.St Go.Proofs.Ytkkeaimoplkliaa.StB Go.Proofs.Ytkkeaimoplkliaa.OpA Go.Proofs.Ytkkeaimoplkliaa.OpW Go.Proofs.Ytkkeaimoplkliaa.OpB Go.Proofs.Ytkkeaimoplkliaa.OpT Go.Proofs.Ytkkeaimoplkliaa.LgA Go.Proofs.Ytkkeaimoplkliaa.LgB Go.Proofs.Ytkkeaimoplkliaa.LgC Go.Proofs.Ytkkeaimoplkliaa.LgD Go.Proofs.Ytkkeaimoplkliaa.LgF
set_option linter.unusedVariables false
attribute [local go_sem ↓] Go.wp_at_zero Go.wp_at_succ
attribute [local irreducible] Go.wpQuiet

set_option maxRecDepth 100000 in
theorem compareOps (o p : OpV) (w : World) :
    Calls Try.prog 92 #[.agg #[.int .i64 o.i, .int .i64 o.j, .int .i64 o.k, .int .i64 o.ts, .int .i64 o.ta, .int .i64 o.fs, .int .i64 o.fa, .int .i64 o.ns, .int .i64 o.na, .int .i64 o.v, .bool o.en, .string o.tx], .agg #[.int .i64 p.i, .int .i64 p.j, .int .i64 p.k, .int .i64 p.ts, .int .i64 p.ta, .int .i64 p.fs, .int .i64 p.fa, .int .i64 p.ns, .int .i64 p.na, .int .i64 p.v, .bool p.en, .string p.tx]] w fun e w' => e = .returned (.int .i64 (scmp o.i o.j p.i p.j)) ∧ Below w.heap.size w w' := by
  go_enter Try.func92, Try.ntmps92
  go_wp2_with fail
  refine (stampCompare _ _ _ _ _).mono ?_
  rintro e w1 ⟨rfl, hb1⟩
  go_wp2
  go_ret
  exact ⟨rfl, (((Below.refl _ _).alloc (Nat.le_refl _) _).alloc (by simp) _).trans (hb1.mono (by simp; omega))⟩

theorem opSet (a : Option Addr) (n c : Nat) (w : World) :
    Calls Try.prog 59 #[.slice a n c] w fun e w' => e = .returned (.agg #[.slice a n c, .func (.func 92) #[] #[]]) ∧ Below w.heap.size w w' := by
  go_enter Try.func59, Try.ntmps59
  go_wp2
  refine bodyPost_ret (v := .agg #[.slice a n c, .func (.func 92) #[] #[]]) (by simp [results, Try.results59, go_sem]) rfl ⟨rfl, ?_⟩
  go_grown

theorem scmp_cases (s a t b : Int) : (scmp s a t b < 0 ∧ slt s a t b = true) ∨ (¬ scmp s a t b < 0 ∧ slt s a t b = false) := by
  rw [← scmp_neg]
  by_cases h : scmp s a t b < 0
  · exact .inl ⟨h, by simp [h]⟩
  · exact .inr ⟨h, by simp [h]⟩

set_option maxRecDepth 100000 in
set_option maxHeartbeats 1000000 in
theorem ascending (a : Option Addr) (c : Nat) (os : List OpV) (w : World) (hr : RdO w a os) (hl : os.length ≤ 1048576) :
    Calls Try.prog 60 #[.agg #[.slice a os.length c, .func (.func 92) #[] #[]]] w fun e w' => e = .returned (.bool (ascTo os (os.length - 1))) ∧ Below w.heap.size w w' := by
  rcases hr with rfl | ⟨b, off, rfl, hc⟩
  · go_enter Try.func60, Try.ntmps60
    go_wp2
    go_rounds 1
    go_ret
    exact ⟨rfl, (Below.refl _ _).alloc (Nat.le_refl _) _⟩
  · have HC := Lib.hid hc
    clear hc
    go_enter Try.func60, Try.ntmps60
    go_wp2
    go_outline
    go_loopw [3] (fun i wr => ∃ k : Nat, 1 ≤ k ∧ i = .int .i64 k ∧ Hid (ascTo os (k - 1) = true) ∧ (k ≤ os.length ∨ os.length = 0) ∧
        Below w.heap.size w wr ∧ w.heap.size < wr.heap.size ∧ wr.cell? ⟨w.heap.size, 0, none⟩ = some (.slice (some ⟨b, off, none⟩) os.length c) ∧ wr.cell? ⟨w.heap.size, 1, none⟩ = some (.func (.func 92) #[] #[])) (fun i _ => os.length - (intOf i).toNat)
    case atStart => exact ⟨1, Nat.le_refl _, rfl, rfl, by omega, (Below.refl _ _).alloc (Nat.le_refl _) _, by simp, by simp [go_sem], by simp [go_sem]⟩
    case round =>
      obtain ⟨k, hk1, rfl, hok, hkl, hnx, hzb, hc0, hc1⟩ := hrel
      by_cases hlt : k < os.length
      · obtain ⟨o, ho⟩ : ∃ o, o = os.getD k zop := ⟨_, rfl⟩
        have HR := Lib.hid (by rw [ho]; exact rangeAt_below (HC.out k hlt) hnx (rangeAt_lt (HC.out k hlt)) : wr.rangeAt b (off + k * 12) (opL o))
        have HO := Lib.hid ho
        clear ho
        obtain ⟨m, hm⟩ : ∃ m, k = m + 1 := ⟨k - 1, by omega⟩
        have hw1 : IntKind.i64.wrap ((k : Int) - 1) = (m : Int) := by
          rw [wrapI _ (by omega) (by omega)]
          omega
        have hm0 : (0 : Int) ≤ (m : Int) := Int.natCast_nonneg _
        have hm1 : (m : Int) < (os.length : Int) := by omega
        have hml : m < os.length := by omega
        have hk0 : (0 : Int) ≤ (k : Int) := Int.natCast_nonneg _
        have hk2 : (k : Int) < (os.length : Int) := by omega
        obtain ⟨q, hq⟩ : ∃ q, q = os.getD m zop := ⟨_, rfl⟩
        have HP := Lib.hid (by rw [hq]; exact rangeAt_below (HC.out m hml) hnx (rangeAt_lt (HC.out m hml)) : wr.rangeAt b (off + m * 12) (opL q))
        have hla : slt q.i q.j o.i o.j = lessAt os m := by rw [hq, HO.out, hm]; rfl
        have HM := Lib.hid hm
        have HB0 := Lib.hid hc0
        have HB1 := Lib.hid hc1
        have hB0 : Below wr.heap.size wr wr.drew := (Below.refl _ _).drew
        have hcs := scmp_cases q.i q.j o.i o.j
        rw [hla] at hcs
        have HCM := Lib.hid (fun w => compareOps q o w)
        generalize scmp q.i q.j o.i o.j = x at hcs HCM
        clear hla hq hm hkl
        rcases hcs with ⟨hx, hla⟩ | ⟨hx, hla⟩
        all_goals
          have HLA := Lib.hid hla
          clear hla
          go_wp2
          refine region_lit (C := fun W => Below wr.heap.size wr W) (by kernel_rfl) (by kernel_rfl) hB0 ?_
          clear hc0 hc1
          repeat (
            first
              | (with_reducible refine quietI rfl _ rfl rfl (fun W hW => rangeAt_below HP.out hW (rangeAt_lt HP.out)) ?_)
              | (with_reducible refine quietI rfl _ rfl rfl (fun W hW => rangeAt_below HR.out hW (rangeAt_lt HR.out)) ?_)
              | (refine wpQuiet_step (fun K hK => ?_)
                 go_simp
                 first
                   | (refine hK _ ?_; clear hK K)
                   | (apply Exists.intro
                      refine ⟨fun W hW => ?_, hK _ ?_⟩
                      · have p0 := (hW.cell (p := ⟨w.heap.size, 0, none⟩) hzb).trans HB0.out
                        have p1 := (hW.cell (p := ⟨w.heap.size, 1, none⟩) hzb).trans HB1.out
                        first
                          | (go_simp; exact rfl)
                          | (go_simp; exact ⟨rfl, rfl⟩)
                          | with_reducible exact (HCM.out _).mono (fun e wn ⟨he, hbn⟩ => ⟨he, hW.trans (hbn.mono hW.size)⟩)
                          | with_reducible exact ⟨rfl, (HCM.out _).mono (fun e wn ⟨he, hbn⟩ => ⟨he, hW.trans (hbn.mono hW.size)⟩)⟩
                      clear hK K)))
          refine wpQuiet_nil ?_
          intro W hW
          have hd0 := (hW.cell (p := ⟨w.heap.size, 0, none⟩) hzb).trans HB0.out
          have hd1 := (hW.cell (p := ⟨w.heap.size, 1, none⟩) hzb).trans HB1.out
          have hzW := hW.size
        · have hx' : ¬ (0 : Int) ≤ x := by omega
          go_wp2
          go_roundw
          case rel => exact ⟨k + 1, by omega, by go_num, by have h := hok.out; have hm := HM.out; rw [show k + 1 - 1 = m + 1 by omega, ascTo_succ, show m = k - 1 by omega, h, show k - 1 = m by omega, HLA.out]; rfl, by omega, hnx.trans (hW.mono hnx.size), by omega, hd0, hd1⟩
          case measure => simp [intOf]; omega
        · have hx' : (0 : Int) ≤ x := by omega
          go_wp2
          go_ret
          refine ⟨ret_bool ?_, hnx.trans (hW.mono hnx.size)⟩
          have : ascTo os (os.length - 1) = false := by
            unfold ascTo
            rw [List.all_eq_false]
            exact ⟨m, by have := HM.out; simp; omega, by rw [HLA.out]; exact Bool.false_ne_true⟩
          exact this.symm
      · go_wp2
        go_ret
        refine ⟨ret_bool ?_, hnx⟩
        have h := hok.out
        rcases hkl with h1 | h1
        · rw [show os.length - 1 = k - 1 by omega, h]
        · rw [h1]; rfl

end Go.Proofs.Ytkkeaimoplkliaa.LgG
