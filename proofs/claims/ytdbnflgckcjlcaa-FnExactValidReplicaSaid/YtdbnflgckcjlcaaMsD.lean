/-
  Valid messages, and messages in ascending order: contracts of the model and of the program. For slices that read as a list of at most 2^20.
-/
import Derived.Test.YtdbnflgckcjlcaaMsC
import Derived.Test.YtdbnflgckcjlcaaK2
import Derived.Test.YtdbnflgckcjlcaaK5
import Derived.Laws.EntriesVeiled
import Derived.Outline
namespace Go.Proofs.Ytdbnflgckcjlcaa.MsD
open Go.RowKit Go.Proofs.Ytdbnflgckcjlcaa.Base Go.Proofs.Ytdbnflgckcjlcaa.St Go.Proofs.Ytdbnflgckcjlcaa.StB Go.Proofs.Ytdbnflgckcjlcaa.OpA Go.Proofs.Ytdbnflgckcjlcaa.OpW Go.Proofs.Ytdbnflgckcjlcaa.OpB Go.Proofs.Ytdbnflgckcjlcaa.OpT Go.Proofs.Ytdbnflgckcjlcaa.LgA Go.Proofs.Ytdbnflgckcjlcaa.LgB Go.Proofs.Ytdbnflgckcjlcaa.LgC Go.Proofs.Ytdbnflgckcjlcaa.LgD Go.Proofs.Ytdbnflgckcjlcaa.LgF Go.Proofs.Ytdbnflgckcjlcaa.LgG Go.Proofs.Ytdbnflgckcjlcaa.LgI Go.Proofs.Ytdbnflgckcjlcaa.MsA Go.Proofs.Ytdbnflgckcjlcaa.MsB Go.Proofs.Ytdbnflgckcjlcaa.MsC
open Go.Proofs.Ytdbnflgckcjlcaa.GsA (Elt RdG OwnG RdG.below rangeAt_ltG)
set_option linter.unusedVariables false
attribute [local go_sem ↓] Go.wp_at_zero Go.wp_at_succ
attribute [local irreducible] Go.wpQuiet

/-- A valid message. -/
def vmsg (x : MsgV) : Bool := vop x.o && inR x.p 0 (x.o.i - 1)
theorem vop_small {o : OpV} (h : vop o = true) : 1 ≤ o.i ∧ o.i ≤ 99 := by
  have hv : vst o.i o.j = true := by
    unfold vop at h
    simp only [Bool.and_eq_true] at h
    exact h.1
  exact ((vst_iff _ _).1 hv).1
/-- The first k messages are valid. -/
def okm (ms : List MsgV) (k : Nat) : Bool := (List.range k).all fun i => vmsg (ms.getD i zMsg)
def lessM (ms : List MsgV) (i : Nat) : Bool := slt (ms.getD i zMsg).o.i (ms.getD i zMsg).o.j (ms.getD (i + 1) zMsg).o.i (ms.getD (i + 1) zMsg).o.j
def asm (ms : List MsgV) (k : Nat) : Bool := (List.range k).all fun i => lessM ms i
theorem okm_succ (ms : List MsgV) (k : Nat) : okm ms (k + 1) = (okm ms k && vmsg (ms.getD k zMsg)) := by simp [okm, List.range_succ]
theorem asm_succ (ms : List MsgV) (k : Nat) : asm ms (k + 1) = (asm ms k && lessM ms k) := by simp [asm, List.range_succ]
theorem okm_bad {ms : List MsgV} {k : Nat} (hk : k < ms.length) (h : vmsg (ms.getD k zMsg) = false) : okm ms ms.length = false := by
  unfold okm
  rw [List.all_eq_false]
  exact ⟨k, by simpa using hk, by rw [h]; exact Bool.false_ne_true⟩
theorem asm_bad {ms : List MsgV} {k : Nat} (hk : k + 1 < ms.length) (h : lessM ms k = false) : asm ms (ms.length - 1) = false := by
  unfold asm
  rw [List.all_eq_false]
  exact ⟨k, by simp; omega, by rw [h]; exact Bool.false_ne_true⟩
/-- A valid replica. -/
def vrep (au : Int) (os : List OpV) (ms : List MsgV) : Bool := (okm ms ms.length && asm ms (ms.length - 1)) && (inR au 0 2 && (vlog os && decide (ms.length ≤ 20)))

set_option maxRecDepth 100000 in
set_option maxHeartbeats 1000000 in
theorem spec_validMessage (x : MsgV) (w : World) (hs : x.o.tx.size ≤ maxLen) : Calls Try.prog 80 #[.agg #[.int .i64 x.o.i, .int .i64 x.o.j, .int .i64 x.o.k, .int .i64 x.o.ts, .int .i64 x.o.ta, .int .i64 x.o.fs, .int .i64 x.o.fa, .int .i64 x.o.ns, .int .i64 x.o.na, .int .i64 x.o.v, .bool x.o.en, .string x.o.tx, .int .i64 x.p]] w fun e w' => e = .returned (.bool (vmsg x)) ∧ Below w.heap.size w w' := by
  obtain ⟨w0, hw0⟩ : ∃ w0, w0 = w.alloc (.cells #[.int .i64 x.o.i, .int .i64 x.o.j, .int .i64 x.o.k, .int .i64 x.o.ts, .int .i64 x.o.ta, .int .i64 x.o.fs, .int .i64 x.o.fa, .int .i64 x.o.ns, .int .i64 x.o.na, .int .i64 x.o.v, .bool x.o.en, .string x.o.tx, .int .i64 x.p] 88) := ⟨_, rfl⟩
  have hz : w.heap.size < w0.heap.size := by rw [hw0]; simp
  have HB := Lib.hid (by rw [hw0]; exact (Below.refl _ _).alloc (Nat.le_refl _) _ : Below w.heap.size w w0)
  have hR : w0.rangeAt w.heap.size 0 (EMsg.L x) := by rw [hw0]; exact boxM w x _
  have HRO := Lib.hid (msg_op hR)
  have HI := Lib.hid (hR 0 _ rfl : w0.cell? ⟨w.heap.size, 0 + 0, none⟩ = some (.int .i64 x.o.i))
  have HP := Lib.hid (by have := msg_p hR; rwa [Nat.zero_add] at this : w0.cell? ⟨w.heap.size, 12, none⟩ = some (.int .i64 x.p))
  have HV := Lib.hid (svop x.o w0 hs)
  have HW := Lib.hid hw0
  have HZ := Lib.hid hz
  obtain ⟨v, hv⟩ : ∃ v, vop x.o = v := ⟨_, rfl⟩
  have hx : vmsg x = (v && inR x.p 0 (x.o.i - 1)) := by rw [← hv]; rfl
  rw [hx]
  rw [hv] at HV
  have HVV := Lib.hid hv
  clear hw0 hR hz hv hx hs
  cases v
  · go_enter Try.func80, Try.ntmps80
    go_wp2_with (first | (rw [← HW.out]; refine loadI rfl _ rfl rfl HRO.out ?_) | (refine loadI rfl _ rfl rfl HRO.out ?_))
    refine HV.out.mono ?_
    rintro e w1 ⟨rfl, b1⟩
    go_wp2
    go_ret
    exact ⟨rfl, HB.out.trans (b1.mono HB.out.size)⟩
  · go_enter Try.func80, Try.ntmps80
    go_wp2_with (first | (rw [← HW.out]; refine loadI rfl _ rfl rfl HRO.out ?_) | (refine loadI rfl _ rfl rfl HRO.out ?_))
    refine HV.out.mono ?_
    rintro e w1 ⟨rfl, b1⟩
    have q0 := (b1.cell (p := ⟨w.heap.size, 0, none⟩) HZ.out).trans HI.out
    have q1 := (b1.cell (p := ⟨w.heap.size, 12, none⟩) HZ.out).trans HP.out
    obtain ⟨s0, s1⟩ := vop_small HVV.out
    have hw1 : IntKind.i64.wrap (x.o.i - 1) = x.o.i - 1 := wrapI _ (by omega) (by omega)
    have HBB := Lib.hid (HB.out.trans (b1.mono HB.out.size))
    go_wp2_with (go_at_call 81; refine (spec_inRange _ _ _ _).mono ?_; rintro e w' ⟨rfl, rfl⟩)
    go_ret
    exact ⟨rfl, HBB.out⟩

set_option maxRecDepth 100000 in
set_option maxHeartbeats 1000000 in
theorem impl_valid (x : MsgV) (w : World) (hs : x.o.tx.size ≤ maxLen) : Calls Try.prog 54 #[.agg #[.int .i64 x.o.i, .int .i64 x.o.j, .int .i64 x.o.k, .int .i64 x.o.ts, .int .i64 x.o.ta, .int .i64 x.o.fs, .int .i64 x.o.fa, .int .i64 x.o.ns, .int .i64 x.o.na, .int .i64 x.o.v, .bool x.o.en, .string x.o.tx, .int .i64 x.p]] w fun e w' => e = .returned (.bool (vmsg x)) ∧ Below w.heap.size w w' := by
  obtain ⟨w0, hw0⟩ : ∃ w0, w0 = w.alloc (.cells #[.int .i64 x.o.i, .int .i64 x.o.j, .int .i64 x.o.k, .int .i64 x.o.ts, .int .i64 x.o.ta, .int .i64 x.o.fs, .int .i64 x.o.fa, .int .i64 x.o.ns, .int .i64 x.o.na, .int .i64 x.o.v, .bool x.o.en, .string x.o.tx, .int .i64 x.p] 88) := ⟨_, rfl⟩
  have hz : w.heap.size < w0.heap.size := by rw [hw0]; simp
  have HB := Lib.hid (by rw [hw0]; exact (Below.refl _ _).alloc (Nat.le_refl _) _ : Below w.heap.size w w0)
  have hR : w0.rangeAt w.heap.size 0 (EMsg.L x) := by rw [hw0]; exact boxM w x _
  have HRO := Lib.hid (msg_op hR)
  have HI := Lib.hid (hR 0 _ rfl : w0.cell? ⟨w.heap.size, 0 + 0, none⟩ = some (.int .i64 x.o.i))
  have HP := Lib.hid (by have := msg_p hR; rwa [Nat.zero_add] at this : w0.cell? ⟨w.heap.size, 12, none⟩ = some (.int .i64 x.p))
  have HV := Lib.hid (ivop x.o w0 hs)
  have HW := Lib.hid hw0
  have HZ := Lib.hid hz
  obtain ⟨v, hv⟩ : ∃ v, vop x.o = v := ⟨_, rfl⟩
  have hx : vmsg x = (v && inR x.p 0 (x.o.i - 1)) := by rw [← hv]; rfl
  rw [hx]
  rw [hv] at HV
  have HVV := Lib.hid hv
  clear hw0 hR hz hv hx hs
  cases v
  · go_enter Try.func54, Try.ntmps54
    go_wp2_with (first | (rw [← HW.out]; refine loadI rfl _ rfl rfl HRO.out ?_) | (refine loadI rfl _ rfl rfl HRO.out ?_))
    refine HV.out.mono ?_
    rintro e w1 ⟨rfl, b1⟩
    go_wp2
    go_ret
    exact ⟨rfl, HB.out.trans (b1.mono HB.out.size)⟩
  · go_enter Try.func54, Try.ntmps54
    go_wp2_with (first | (rw [← HW.out]; refine loadI rfl _ rfl rfl HRO.out ?_) | (refine loadI rfl _ rfl rfl HRO.out ?_))
    refine HV.out.mono ?_
    rintro e w1 ⟨rfl, b1⟩
    have q0 := (b1.cell (p := ⟨w.heap.size, 0, none⟩) HZ.out).trans HI.out
    have q1 := (b1.cell (p := ⟨w.heap.size, 12, none⟩) HZ.out).trans HP.out
    obtain ⟨s0, s1⟩ := vop_small HVV.out
    have hw1 : IntKind.i64.wrap (x.o.i - 1) = x.o.i - 1 := wrapI _ (by omega) (by omega)
    have HBB := Lib.hid (HB.out.trans (b1.mono HB.out.size))
    go_wp2_with (go_at_call 83; refine (impl_inRange _ _ _ _).mono ?_; rintro e w' ⟨rfl, rfl⟩)
    go_ret
    exact ⟨rfl, HBB.out⟩

set_option maxRecDepth 100000 in
theorem compareMessages (q o : MsgV) (w : World) :
    Calls Try.prog 84 #[.agg #[.int .i64 q.o.i, .int .i64 q.o.j, .int .i64 q.o.k, .int .i64 q.o.ts, .int .i64 q.o.ta, .int .i64 q.o.fs, .int .i64 q.o.fa, .int .i64 q.o.ns, .int .i64 q.o.na, .int .i64 q.o.v, .bool q.o.en, .string q.o.tx, .int .i64 q.p], .agg #[.int .i64 o.o.i, .int .i64 o.o.j, .int .i64 o.o.k, .int .i64 o.o.ts, .int .i64 o.o.ta, .int .i64 o.o.fs, .int .i64 o.o.fa, .int .i64 o.o.ns, .int .i64 o.o.na, .int .i64 o.o.v, .bool o.o.en, .string o.o.tx, .int .i64 o.p]] w fun e w' => e = .returned (.int .i64 (scmp q.o.i q.o.j o.o.i o.o.j)) ∧ Below w.heap.size w w' := by
  obtain ⟨w0, hw0⟩ : ∃ w0, w0 = ((w.alloc (.cells #[.int .i64 q.o.i, .int .i64 q.o.j, .int .i64 q.o.k, .int .i64 q.o.ts, .int .i64 q.o.ta, .int .i64 q.o.fs, .int .i64 q.o.fa, .int .i64 q.o.ns, .int .i64 q.o.na, .int .i64 q.o.v, .bool q.o.en, .string q.o.tx, .int .i64 q.p] 88)).alloc (.cells #[.int .i64 o.o.i, .int .i64 o.o.j, .int .i64 o.o.k, .int .i64 o.o.ts, .int .i64 o.o.ta, .int .i64 o.o.fs, .int .i64 o.o.fa, .int .i64 o.o.ns, .int .i64 o.o.na, .int .i64 o.o.v, .bool o.o.en, .string o.o.tx, .int .i64 o.p] 88)) := ⟨_, rfl⟩
  have hB : Below w.heap.size w w0 := by rw [hw0]; exact ((Below.refl _ _).alloc (Nat.le_refl _) _).alloc (by simp) _
  have hR : w0.rangeAt w.heap.size 0 (EMsg.L q) := by
    rw [hw0]
    exact rangeAt_below (boxM w q _) ((Below.refl _ _).alloc (Nat.le_refl _) _) (by simp)
  have hR2 : w0.rangeAt (w.heap.size + 1) 0 (EMsg.L o) := by
    have h := boxM (w.alloc (.cells #[.int .i64 q.o.i, .int .i64 q.o.j, .int .i64 q.o.k, .int .i64 q.o.ts, .int .i64 q.o.ta, .int .i64 q.o.fs, .int .i64 q.o.fa, .int .i64 q.o.ns, .int .i64 q.o.na, .int .i64 q.o.v, .bool q.o.en, .string q.o.tx, .int .i64 q.p] 88)) o 88
    rw [← hw0, show (w.alloc (.cells #[.int .i64 q.o.i, .int .i64 q.o.j, .int .i64 q.o.k, .int .i64 q.o.ts, .int .i64 q.o.ta, .int .i64 q.o.fs, .int .i64 q.o.fa, .int .i64 q.o.ns, .int .i64 q.o.na, .int .i64 q.o.v, .bool q.o.en, .string q.o.tx, .int .i64 q.p] 88)).heap.size = w.heap.size + 1 by simp] at h
    exact h
  have HE := Lib.hid (compareOps q.o o.o w0)
  have HB := Lib.hid hB
  have HO1 := Lib.hid (msg_op hR)
  have HO2 := Lib.hid (msg_op hR2)
  have HW := Lib.hid hw0
  clear hR hR2 hB hw0
  go_enter Try.func84, Try.ntmps84
  go_wp2_with (first
    | (rw [← HW.out]; refine loadI rfl _ rfl rfl HO1.out ?_)
    | (with_reducible refine loadI rfl _ rfl rfl HO1.out ?_)
    | (with_reducible refine loadI rfl _ rfl rfl HO2.out ?_))
  refine HE.out.mono ?_
  rintro e w1 ⟨rfl, b1⟩
  go_wp2
  go_ret
  exact ⟨rfl, HB.out.trans (b1.mono HB.out.size)⟩

theorem messageSet (a : Option Addr) (n c : Nat) (w : World) :
    Calls Try.prog 56 #[.slice a n c] w fun e w' => e = .returned (.agg #[.slice a n c, .func (.func 84) #[] #[]]) ∧ Below w.heap.size w w' := by
  go_enter Try.func56, Try.ntmps56
  go_wp2
  refine bodyPost_ret (v := .agg #[.slice a n c, .func (.func 84) #[] #[]]) (by simp [results, Try.results56, go_sem]) rfl ⟨rfl, ?_⟩
  go_grown

set_option maxRecDepth 100000 in
set_option maxHeartbeats 4000000 in
theorem ascendingM (a : Option Addr) (c : Nat) (os : List MsgV) (w : World) (hr : RdG EMsg w a os) (hl : os.length ≤ 1048576) :
    Calls Try.prog 57 #[.agg #[.slice a os.length c, .func (.func 84) #[] #[]]] w fun e w' => e = .returned (.bool (asm os (os.length - 1))) ∧ Below w.heap.size w w' := by
  rcases hr with rfl | ⟨b, off, rfl, hc⟩
  · go_enter Try.func57, Try.ntmps57
    go_wp2
    go_rounds 1
    go_ret
    exact ⟨rfl, (Below.refl _ _).alloc (Nat.le_refl _) _⟩
  · have HC := Lib.hid hc
    clear hc
    go_enter Try.func57, Try.ntmps57
    go_wp2
    go_outline
    go_loopw [3] (fun i wr => ∃ k : Nat, 1 ≤ k ∧ i = .int .i64 k ∧ Hid (asm os (k - 1) = true) ∧ (k ≤ os.length ∨ os.length = 0) ∧
        Below w.heap.size w wr ∧ w.heap.size < wr.heap.size ∧ wr.cell? ⟨w.heap.size, 0, none⟩ = some (.slice (some ⟨b, off, none⟩) os.length c) ∧ wr.cell? ⟨w.heap.size, 1, none⟩ = some (.func (.func 84) #[] #[])) (fun i _ => os.length - (intOf i).toNat)
    case atStart => exact ⟨1, Nat.le_refl _, rfl, rfl, by omega, (Below.refl _ _).alloc (Nat.le_refl _) _, by simp, by simp [go_sem], by simp [go_sem]⟩
    case round =>
      obtain ⟨k, hk1, rfl, hok, hkl, hnx, hzb, hc0, hc1⟩ := hrel
      by_cases hlt : k < os.length
      · obtain ⟨o, ho⟩ : ∃ o, o = os.getD k zMsg := ⟨_, rfl⟩
        have HR := Lib.hid (by rw [ho]; exact rangeAt_below (HC.out k hlt) hnx (rangeAt_ltG EMsg (HC.out k hlt)) : wr.rangeAt b (off + k * 13) (EMsg.L o))
        have HO := Lib.hid ho
        clear ho
        obtain ⟨m, hm⟩ : ∃ m, k = m + 1 := ⟨k - 1, by omega⟩
        have hw1 : IntKind.i64.wrap ((k : Int) - 1) = (m : Int) := by
          rw [wrapI _ (by omega) (by omega)]
          omega
        have hm0 : (0 : Int) ≤ (m : Int) := Int.natCast_nonneg _
        have hm1 : (m : Int) < (os.length : Int) := by omega
        have hml : m < os.length := by omega
        have hk0 : (0 : Int) ≤ (k : Int) := Int.natCast_nonneg _
        have hk2 : (k : Int) < (os.length : Int) := by omega
        obtain ⟨q, hq⟩ : ∃ q, q = os.getD m zMsg := ⟨_, rfl⟩
        have HP := Lib.hid (by rw [hq]; exact rangeAt_below (HC.out m hml) hnx (rangeAt_ltG EMsg (HC.out m hml)) : wr.rangeAt b (off + m * 13) (EMsg.L q))
        have hla : slt q.o.i q.o.j o.o.i o.o.j = lessM os m := by rw [hq, HO.out, hm]; rfl
        have HM := Lib.hid hm
        have HB0 := Lib.hid hc0
        have HB1 := Lib.hid hc1
        have hB0 : Below wr.heap.size wr wr.drew := (Below.refl _ _).drew
        have hcs := scmp_cases q.o.i q.o.j o.o.i o.o.j
        rw [hla] at hcs
        have HCM := Lib.hid (fun w => compareMessages q o w)
        generalize scmp q.o.i q.o.j o.o.i o.o.j = x at hcs HCM
        clear hla hq hm hkl
        rcases hcs with ⟨hx, hla⟩ | ⟨hx, hla⟩
        all_goals
          have HLA := Lib.hid hla
          clear hla
          go_wp2
          refine region_lit (C := fun W => Below wr.heap.size wr W) (by kernel_rfl) (by kernel_rfl) hB0 ?_
          clear hc0 hc1
          repeat (
            first
              | (with_reducible refine quiet_iMsg rfl _ rfl rfl (fun W hW => rangeAt_below HP.out hW (rangeAt_ltG EMsg HP.out)) ?_)
              | (with_reducible refine quiet_iMsg rfl _ rfl rfl (fun W hW => rangeAt_below HR.out hW (rangeAt_ltG EMsg HR.out)) ?_)
              | (refine wpQuiet_step (fun K hK => ?_)
                 go_simp
                 first
                   | (refine hK _ ?_; clear hK K)
                   | (apply Exists.intro
                      refine ⟨fun W hW => ?_, hK _ ?_⟩
                      · have p0 := (hW.cell (p := ⟨w.heap.size, 0, none⟩) hzb).trans HB0.out
                        have p1 := (hW.cell (p := ⟨w.heap.size, 1, none⟩) hzb).trans HB1.out
                        first
                          | (go_simp; exact rfl)
                          | (go_simp; exact ⟨rfl, rfl⟩)
                          | with_reducible exact (HCM.out _).mono (fun e wn ⟨he, hbn⟩ => ⟨he, hW.trans (hbn.mono hW.size)⟩)
                          | with_reducible exact ⟨rfl, (HCM.out _).mono (fun e wn ⟨he, hbn⟩ => ⟨he, hW.trans (hbn.mono hW.size)⟩)⟩
                      clear hK K)))
          refine wpQuiet_nil ?_
          intro W hW
          have hd0 := (hW.cell (p := ⟨w.heap.size, 0, none⟩) hzb).trans HB0.out
          have hd1 := (hW.cell (p := ⟨w.heap.size, 1, none⟩) hzb).trans HB1.out
          have hzW := hW.size
        · have hx' : ¬ (0 : Int) ≤ x := by omega
          go_wp2
          go_roundw
          case rel => exact ⟨k + 1, by omega, by go_num, by have h := hok.out; have hm := HM.out; rw [show k + 1 - 1 = m + 1 by omega, asm_succ, show m = k - 1 by omega, h, show k - 1 = m by omega, HLA.out]; rfl, by omega, hnx.trans (hW.mono hnx.size), by omega, hd0, hd1⟩
          case measure => simp [intOf]; omega
        · have hx' : (0 : Int) ≤ x := by omega
          go_wp2
          go_ret
          refine ⟨ret_bool ?_, hnx.trans (hW.mono hnx.size)⟩
          have : asm os (os.length - 1) = false := by
            unfold asm
            rw [List.all_eq_false]
            exact ⟨m, by have := HM.out; simp; omega, by rw [HLA.out]; exact Bool.false_ne_true⟩
          exact this.symm
      · go_wp2
        go_ret
        refine ⟨ret_bool ?_, hnx⟩
        have h := hok.out
        rcases hkl with h1 | h1
        · rw [show os.length - 1 = k - 1 by omega, h]
        · rw [h1]; rfl


end Go.Proofs.Ytdbnflgckcjlcaa.MsD
