/-
  validLog of the model: its contract, out of validOp's. For slices that read as a list of at most 2^20 operations.
-/
import Derived.Test.YtkkeaimoplkliaaLgE
import Derived.Deep.QuietTactic
import Derived.Deep.DrawnRows
import Derived.IntWalk
import Derived.Outline
namespace Go.Proofs.Ytkkeaimoplkliaa.LgF
open Go.RowKit Go.Proofs.Ytkkeaimoplkliaa.Base Go.Proofs.Ytkkeaimoplkliaa.St Go.Proofs.Ytkkeaimoplkliaa.StB Go.Proofs.Ytkkeaimoplkliaa.OpA Go.Proofs.Ytkkeaimoplkliaa.OpW Go.Proofs.Ytkkeaimoplkliaa.OpB Go.Proofs.Ytkkeaimoplkliaa.OpT Go.Proofs.Ytkkeaimoplkliaa.LgA Go.Proofs.Ytkkeaimoplkliaa.LgB Go.Proofs.Ytkkeaimoplkliaa.LgC Go.Proofs.Ytkkeaimoplkliaa.LgD
set_option linter.unusedVariables false
attribute [local go_sem ↓] Go.wp_at_zero Go.wp_at_succ
attribute [local irreducible] Go.wpQuiet

/-- The contracts of the two validity functions of single operations (proved in OpH). -/
def SVop : Prop := ∀ (o : OpV) (w : World), o.tx.size ≤ maxLen → Calls Try.prog 53 #[.agg #[.int .i64 o.i, .int .i64 o.j, .int .i64 o.k, .int .i64 o.ts, .int .i64 o.ta, .int .i64 o.fs, .int .i64 o.fa, .int .i64 o.ns, .int .i64 o.na, .int .i64 o.v, .bool o.en, .string o.tx]] w fun e w' => e = .returned (.bool (vop o)) ∧ Below w.heap.size w w'
def IVop : Prop := ∀ (o : OpV) (w : World), o.tx.size ≤ maxLen → Calls Try.prog 18 #[.agg #[.int .i64 o.i, .int .i64 o.j, .int .i64 o.k, .int .i64 o.ts, .int .i64 o.ta, .int .i64 o.fs, .int .i64 o.fa, .int .i64 o.ns, .int .i64 o.na, .int .i64 o.v, .bool o.en, .string o.tx]] w fun e w' => e = .returned (.bool (vop o)) ∧ Below w.heap.size w w'

/-- A drawn region walked in the order of its text, in every world of a class. -/
theorem region_lit {P : Program} {C : World → Prop} {id : Nat} {Q : Exit → Act → World → Prop} {a : Act} {w : World} {l : List Oper} (hm : P.follows .mixedOrders = true) (hB : Region.lexB .any l.toArray = true)
    (hC : C w.drew) (h : wpQuiet P l.toArray C (fun a' => ∀ w', C w' → Q .normal a' w') l a) : (Code.region id l.toArray true).wp P Q a w :=
  wp_region_quiet (C := C) hm hB hC (by simpa using h)
theorem wrapI (x : Int) (h0 : 0 ≤ x) (h1 : x ≤ 1099511627776) : IntKind.i64.wrap x = x := by
  rw [IntKind.wrap_i64]
  omega
theorem specLess (s a t b : Int) (r : Bool) (h : slt s a t b = r) (w : World) : Calls Try.prog 91 #[.agg #[.int .i64 s, .int .i64 a], .agg #[.int .i64 t, .int .i64 b]] w fun e w' => e = .returned (.bool r) ∧ Below w.heap.size w w' := h ▸ spec_stampLess s a t b w

/-- Operation i sorts before operation i + 1. -/
def lessAt (os : List OpV) (i : Nat) : Bool := slt (os.getD i zop).i (os.getD i zop).j (os.getD (i + 1) zop).i (os.getD (i + 1) zop).j
def allTo (os : List OpV) (k : Nat) : Bool := (List.range k).all fun i => vop (os.getD i zop)
def ascTo (os : List OpV) (k : Nat) : Bool := (List.range k).all fun i => lessAt os i
/-- A valid log. -/
def vlog (os : List OpV) : Bool := decide (os.length ≤ 40) && (allTo os os.length && ascTo os (os.length - 1))
theorem allTo_succ (os : List OpV) (k : Nat) : allTo os (k + 1) = (allTo os k && vop (os.getD k zop)) := by simp [allTo, List.range_succ]
theorem ascTo_succ (os : List OpV) (k : Nat) : ascTo os (k + 1) = (ascTo os k && lessAt os k) := by simp [ascTo, List.range_succ]
theorem allTo_bad {os : List OpV} {k : Nat} (hk : k < os.length) (h : vop (os.getD k zop) = false) : vlog os = false := by
  have : allTo os os.length = false := by
    unfold allTo
    rw [List.all_eq_false]
    exact ⟨k, by simpa using hk, by rw [h]; exact Bool.false_ne_true⟩
  simp [vlog, this]
theorem ascTo_bad {os : List OpV} {k : Nat} (hk : k + 1 < os.length) (h : lessAt os k = false) : vlog os = false := by
  have : ascTo os (os.length - 1) = false := by
    unfold ascTo
    rw [List.all_eq_false]
    exact ⟨k, by simp; omega, by rw [h]; exact Bool.false_ne_true⟩
  simp [vlog, this]

set_option maxRecDepth 100000 in
set_option maxHeartbeats 400000 in
theorem spec_validLog (HV : SVop) (a : Option Addr) (c : Nat) (os : List OpV) (w : World) (hr : RdO w a os) (hl : os.length ≤ 1048576) (ht : ∀ k, k < os.length → (os.getD k zop).tx.size ≤ maxLen) :
    Calls Try.prog 58 #[.slice a os.length c] w fun e w' => e = .returned (.bool (vlog os)) ∧ Below w.heap.size w w' := by
  have HT := Lib.hid ht
  clear ht
  rcases hr with rfl | ⟨b, off, rfl, hc⟩
  · go_enter Try.func58, Try.ntmps58
    go_wp2
    go_rounds 1
    go_ret
    exact ⟨ret_bool (by decide), Below.refl _ _⟩
  · have HC := Lib.hid hc
    clear hc
    go_enter Try.func58, Try.ntmps58
    go_wp2
    go_loopw [3] (fun i wr => ∃ k : Nat, k ≤ os.length ∧ i = .int .i64 k ∧ Hid (allTo os k = true ∧ ascTo os (k - 1) = true) ∧ Below w.heap.size w wr) (fun i _ => os.length - (intOf i).toNat)
    case atStart => exact ⟨0, Nat.zero_le _, rfl, ⟨rfl, rfl⟩, Below.refl _ _⟩
    case round =>
      obtain ⟨k, hk, rfl, hok, hnx⟩ := hrel
      by_cases hlt : k < os.length
      · obtain ⟨o, ho⟩ : ∃ o, o = os.getD k zop := ⟨_, rfl⟩
        have HR := Lib.hid (by rw [ho]; exact rangeAt_below (HC.out k hlt) hnx (rangeAt_lt (HC.out k hlt)) : wr.rangeAt b (off + k * 12) (opL o))
        have HO := Lib.hid ho
        clear ho
        have hs : o.tx.size ≤ maxLen := by rw [HO.out]; exact HT.out k hlt
        have HS := Lib.hid hs
        clear hs
        have hk0 : (0 : Int) ≤ (k : Int) := Int.natCast_nonneg _
        have hk1 : (k : Int) < (os.length : Int) := by omega
        have hB0 : Below wr.heap.size wr wr.drew := (Below.refl _ _).drew
        obtain ⟨v, hv⟩ : ∃ v, vop o = v := ⟨_, rfl⟩
        have HV1 := Lib.hid (fun w => HV o w HS.out)
        rw [hv] at HV1
        have HVO := Lib.hid hv
        clear hv
        cases v
        · go_wp2
          refine region_lit (C := fun W => Below wr.heap.size wr W) (by kernel_rfl) (by kernel_rfl) hB0 ?_
          repeat (
            first
              | (with_reducible refine quietI rfl _ rfl rfl (fun W hW => rangeAt_below HR.out hW (rangeAt_lt HR.out)) ?_)
              | (refine wpQuiet_step (fun K hK => ?_)
                 go_simp
                 first
                   | (refine hK _ ?_; clear hK K)
                   | (apply Exists.intro
                      refine ⟨fun W hW => ?_, hK _ ?_⟩
                      · first
                          | (go_simp; exact rfl)
                          | (go_simp; exact ⟨rfl, rfl⟩)
                          | with_reducible exact (HV1.out _).mono (fun e wn ⟨he, hbn⟩ => ⟨he, hW.trans (hbn.mono hW.size)⟩)
                          | with_reducible exact ⟨rfl, (HV1.out _).mono (fun e wn ⟨he, hbn⟩ => ⟨he, hW.trans (hbn.mono hW.size)⟩)⟩
                      clear hK K)))
          refine wpQuiet_nil ?_
          intro W hW
          go_wp2
          go_ret
          refine ⟨ret_bool ?_, hnx.trans (hW.mono hnx.size)⟩
          have h := HVO.out
          rw [HO.out] at h
          rw [allTo_bad hlt h]
        · by_cases hk' : k = 0
          · subst hk'
            go_wp2
            refine region_lit (C := fun W => Below wr.heap.size wr W) (by kernel_rfl) (by kernel_rfl) hB0 ?_
            repeat (
              first
                | (with_reducible refine quietI rfl _ rfl rfl (fun W hW => rangeAt_below HR.out hW (rangeAt_lt HR.out)) ?_)
                | (refine wpQuiet_step (fun K hK => ?_)
                   go_simp
                   first
                     | (refine hK _ ?_; clear hK K)
                     | (apply Exists.intro
                        refine ⟨fun W hW => ?_, hK _ ?_⟩
                        · first
                            | (go_simp; exact rfl)
                            | (go_simp; exact ⟨rfl, rfl⟩)
                            | with_reducible exact (HV1.out _).mono (fun e wn ⟨he, hbn⟩ => ⟨he, hW.trans (hbn.mono hW.size)⟩)
                            | with_reducible exact ⟨rfl, (HV1.out _).mono (fun e wn ⟨he, hbn⟩ => ⟨he, hW.trans (hbn.mono hW.size)⟩)⟩
                        clear hK K)))
            refine wpQuiet_nil ?_
            intro W hW
            go_wp2
            go_roundw
            case rel => exact ⟨1, by omega, by go_num, ⟨by rw [allTo_succ, hok.out.1, ← HO.out, HVO.out]; rfl, rfl⟩, hnx.trans (hW.mono hnx.size)⟩
            case measure => simp [intOf]; omega
          · obtain ⟨m, hm⟩ : ∃ m, k = m + 1 := ⟨k - 1, by omega⟩
            have hpos : (0 : Int) < (k : Int) := by omega
            have hposn : 0 < k := by omega
            have hw1 : IntKind.i64.wrap ((k : Int) - 1) = (m : Int) := by
              rw [wrapI _ (by omega) (by omega)]
              omega
            have hm0 : (0 : Int) ≤ (m : Int) := Int.natCast_nonneg _
            have hm1 : (m : Int) < (os.length : Int) := by omega
            have hml : m < os.length := by omega
            obtain ⟨q, hq⟩ : ∃ q, q = os.getD m zop := ⟨_, rfl⟩
            have HP := Lib.hid (by rw [hq]; exact rangeAt_below (HC.out m hml) hnx (rangeAt_lt (HC.out m hml)) : wr.rangeAt b (off + m * 12) (opL q))
            have hla : slt q.i q.j o.i o.j = lessAt os m := by rw [hq, HO.out, hm]; rfl
            obtain ⟨r, hr⟩ : ∃ r, lessAt os m = r := ⟨_, rfl⟩
            rw [hr] at hla
            have HL1 := Lib.hid (specLess q.i q.j o.i o.j r hla)
            have HLA := Lib.hid hr
            have HM := Lib.hid hm
            clear hla hr hq hm hk'
            cases r
            · go_wp2
              refine region_lit (C := fun W => Below wr.heap.size wr W) (by kernel_rfl) (by kernel_rfl) hB0 ?_
              repeat (
                first
                  | (with_reducible refine quietI rfl _ rfl rfl (fun W hW => rangeAt_below HR.out hW (rangeAt_lt HR.out)) ?_)
                  | (refine wpQuiet_step (fun K hK => ?_)
                     go_simp
                     first
                       | (refine hK _ ?_; clear hK K)
                       | (apply Exists.intro
                          refine ⟨fun W hW => ?_, hK _ ?_⟩
                          · obtain ⟨q0, q1, q2, q3, q4, q5, q6, q7, q8, q9, q10, q11⟩ := c12 (rangeAt_below HR.out hW (rangeAt_lt HR.out))
                            obtain ⟨p0, p1, p2, p3, p4, p5, p6, p7, p8, p9, p10, p11⟩ := c12 (rangeAt_below HP.out hW (rangeAt_lt HP.out))
                            first
                              | (go_simp; exact rfl)
                              | (go_simp; exact ⟨rfl, rfl⟩)
                              | with_reducible exact (HV1.out _).mono (fun e wn ⟨he, hbn⟩ => ⟨he, hW.trans (hbn.mono hW.size)⟩)
                              | with_reducible exact ⟨rfl, (HV1.out _).mono (fun e wn ⟨he, hbn⟩ => ⟨he, hW.trans (hbn.mono hW.size)⟩)⟩
                              | with_reducible exact (HL1.out _).mono (fun e wn ⟨he, hbn⟩ => ⟨he, hW.trans (hbn.mono hW.size)⟩)
                              | with_reducible exact ⟨rfl, (HL1.out _).mono (fun e wn ⟨he, hbn⟩ => ⟨he, hW.trans (hbn.mono hW.size)⟩)⟩
                          clear hK K)))
              refine wpQuiet_nil ?_
              intro W hW
              go_wp2
              go_ret
              exact ⟨ret_bool (ascTo_bad (by have := HM.out; omega) HLA.out).symm, hnx.trans (hW.mono hnx.size)⟩
            · go_wp2
              refine region_lit (C := fun W => Below wr.heap.size wr W) (by kernel_rfl) (by kernel_rfl) hB0 ?_
              repeat (
                first
                  | (with_reducible refine quietI rfl _ rfl rfl (fun W hW => rangeAt_below HR.out hW (rangeAt_lt HR.out)) ?_)
                  | (refine wpQuiet_step (fun K hK => ?_)
                     go_simp
                     first
                       | (refine hK _ ?_; clear hK K)
                       | (apply Exists.intro
                          refine ⟨fun W hW => ?_, hK _ ?_⟩
                          · obtain ⟨q0, q1, q2, q3, q4, q5, q6, q7, q8, q9, q10, q11⟩ := c12 (rangeAt_below HR.out hW (rangeAt_lt HR.out))
                            obtain ⟨p0, p1, p2, p3, p4, p5, p6, p7, p8, p9, p10, p11⟩ := c12 (rangeAt_below HP.out hW (rangeAt_lt HP.out))
                            first
                              | (go_simp; exact rfl)
                              | (go_simp; exact ⟨rfl, rfl⟩)
                              | with_reducible exact (HV1.out _).mono (fun e wn ⟨he, hbn⟩ => ⟨he, hW.trans (hbn.mono hW.size)⟩)
                              | with_reducible exact ⟨rfl, (HV1.out _).mono (fun e wn ⟨he, hbn⟩ => ⟨he, hW.trans (hbn.mono hW.size)⟩)⟩
                              | with_reducible exact (HL1.out _).mono (fun e wn ⟨he, hbn⟩ => ⟨he, hW.trans (hbn.mono hW.size)⟩)
                              | with_reducible exact ⟨rfl, (HL1.out _).mono (fun e wn ⟨he, hbn⟩ => ⟨he, hW.trans (hbn.mono hW.size)⟩)⟩
                          clear hK K)))
              refine wpQuiet_nil ?_
              intro W hW
              go_wp2
              go_roundw
              case rel =>
                refine ⟨k + 1, by omega, by go_num, ?_, hnx.trans (hW.mono hnx.size)⟩
                obtain ⟨h1, h2⟩ := hok.out
                have hm := HM.out
                exact ⟨by rw [allTo_succ, h1, ← HO.out, HVO.out]; rfl, by rw [show k + 1 - 1 = m + 1 by omega, ascTo_succ, show m = k - 1 by omega, h2, show k - 1 = m by omega, HLA.out]; rfl⟩
              case measure => simp [intOf]; omega
      · obtain rfl : k = os.length := by omega
        go_wp2
        go_ret
        refine ⟨ret_bool ?_, hnx⟩
        obtain ⟨h1, h2⟩ := hok.out
        rw [vlog, h1, h2]
        simp
        omega

end Go.Proofs.Ytkkeaimoplkliaa.LgF
