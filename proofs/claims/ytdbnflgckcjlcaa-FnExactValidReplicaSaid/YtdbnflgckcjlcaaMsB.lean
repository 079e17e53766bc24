/-
  eq of messages and of slices of them. For slices that read as a list of at most 2^20; no further condition.
-/
import Derived.Test.YtdbnflgckcjlcaaMsA
import Derived.Handy
import Derived.Outline
namespace Go.Proofs.Ytdbnflgckcjlcaa.MsB
open Go.RowKit Go.Proofs.Ytdbnflgckcjlcaa.Base Go.Proofs.Ytdbnflgckcjlcaa.St Go.Proofs.Ytdbnflgckcjlcaa.StB Go.Proofs.Ytdbnflgckcjlcaa.OpA Go.Proofs.Ytdbnflgckcjlcaa.OpB Go.Proofs.Ytdbnflgckcjlcaa.OpT Go.Proofs.Ytdbnflgckcjlcaa.LgD Go.Proofs.Ytdbnflgckcjlcaa.GsA Go.Proofs.Ytdbnflgckcjlcaa.GsB Go.Proofs.Ytdbnflgckcjlcaa.MsA
open Go.Proofs.Ytdbnflgckcjlcaa.LgA (opL opL_len zop C12 c12)
open Go.Proofs.Ytdbnflgckcjlcaa.LgB (loadL loadI storeI quietI SzOk szV_cases)
open Go.Proofs.Ytdbnflgckcjlcaa.LgF (region_lit)
set_option linter.unusedVariables false
attribute [local go_sem ↓] Go.wp_at_zero Go.wp_at_succ
attribute [local irreducible] Go.wpQuiet

set_option maxRecDepth 100000 in
set_option maxHeartbeats 2000000 in
theorem eqMessage_refl (x : MsgV) (w : World) : Calls Try.prog 85 #[.agg #[.int .i64 x.o.i, .int .i64 x.o.j, .int .i64 x.o.k, .int .i64 x.o.ts, .int .i64 x.o.ta, .int .i64 x.o.fs, .int .i64 x.o.fa, .int .i64 x.o.ns, .int .i64 x.o.na, .int .i64 x.o.v, .bool x.o.en, .string x.o.tx, .int .i64 x.p], .agg #[.int .i64 x.o.i, .int .i64 x.o.j, .int .i64 x.o.k, .int .i64 x.o.ts, .int .i64 x.o.ta, .int .i64 x.o.fs, .int .i64 x.o.fa, .int .i64 x.o.ns, .int .i64 x.o.na, .int .i64 x.o.v, .bool x.o.en, .string x.o.tx, .int .i64 x.p]] w fun e w' => e = .returned (.bool true) ∧ Below w.heap.size w w' := by
  obtain ⟨w0, hw0⟩ : ∃ w0, w0 = ((w.alloc (.cells #[.int .i64 x.o.i, .int .i64 x.o.j, .int .i64 x.o.k, .int .i64 x.o.ts, .int .i64 x.o.ta, .int .i64 x.o.fs, .int .i64 x.o.fa, .int .i64 x.o.ns, .int .i64 x.o.na, .int .i64 x.o.v, .bool x.o.en, .string x.o.tx, .int .i64 x.p] 88)).alloc (.cells #[.int .i64 x.o.i, .int .i64 x.o.j, .int .i64 x.o.k, .int .i64 x.o.ts, .int .i64 x.o.ta, .int .i64 x.o.fs, .int .i64 x.o.fa, .int .i64 x.o.ns, .int .i64 x.o.na, .int .i64 x.o.v, .bool x.o.en, .string x.o.tx, .int .i64 x.p] 88)) := ⟨_, rfl⟩
  have hz : w0.heap.size = w.heap.size + 2 := by rw [hw0]; simp
  have hB : Below w.heap.size w w0 := by rw [hw0]; exact ((Below.refl _ _).alloc (Nat.le_refl _) _).alloc (by simp) _
  have hR : w0.rangeAt w.heap.size 0 (EMsg.L x) := by
    rw [hw0]
    exact rangeAt_below (boxM w x _) ((Below.refl _ _).alloc (Nat.le_refl _) _) (by simp)
  have hR2 : w0.rangeAt (w.heap.size + 1) 0 (EMsg.L x) := by
    have h := boxM (w.alloc (.cells #[.int .i64 x.o.i, .int .i64 x.o.j, .int .i64 x.o.k, .int .i64 x.o.ts, .int .i64 x.o.ta, .int .i64 x.o.fs, .int .i64 x.o.fa, .int .i64 x.o.ns, .int .i64 x.o.na, .int .i64 x.o.v, .bool x.o.en, .string x.o.tx, .int .i64 x.p] 88)) x 88
    rw [← hw0, show (w.alloc (.cells #[.int .i64 x.o.i, .int .i64 x.o.j, .int .i64 x.o.k, .int .i64 x.o.ts, .int .i64 x.o.ta, .int .i64 x.o.fs, .int .i64 x.o.fa, .int .i64 x.o.ns, .int .i64 x.o.na, .int .i64 x.o.v, .bool x.o.en, .string x.o.tx, .int .i64 x.p] 88)).heap.size = w.heap.size + 1 by simp] at h
    exact h
  have HE := Lib.hid (eqOp_refl x.o w0)
  have HB := Lib.hid hB
  have HZ := Lib.hid hz
  have HO1 := Lib.hid (msg_op hR)
  have HO2 := Lib.hid (msg_op hR2)
  have HP1 := Lib.hid (by have := msg_p hR; rwa [Nat.zero_add] at this : w0.cell? ⟨w.heap.size, 12, none⟩ = some (.int .i64 x.p))
  have HP2 := Lib.hid (by have := msg_p hR2; rwa [Nat.zero_add] at this : w0.cell? ⟨w.heap.size + 1, 12, none⟩ = some (.int .i64 x.p))
  have HW := Lib.hid hw0
  clear hR hR2 hB hz hw0
  go_enter Try.func85, Try.ntmps85
  go_wp2_with (first
    | (rw [← HW.out]; refine loadI rfl _ rfl rfl HO1.out ?_)
    | (with_reducible refine loadI rfl _ rfl rfl HO1.out ?_)
    | (with_reducible refine loadI rfl _ rfl rfl HO2.out ?_))
  refine HE.out.mono ?_
  rintro e w1 ⟨rfl, b1⟩
  have p1 := (b1.cell (p := ⟨w.heap.size, 12, none⟩) (by have := HZ.out; show w.heap.size < _; omega)).trans HP1.out
  have p2 := (b1.cell (p := ⟨w.heap.size + 1, 12, none⟩) (by have := HZ.out; show w.heap.size + 1 < _; omega)).trans HP2.out
  have hB1 := Lib.hid (HB.out.trans (b1.mono HB.out.size))
  go_wp2
  go_ret
  exact ⟨rfl, hB1.out⟩

set_option maxRecDepth 100000 in
set_option maxHeartbeats 2000000 in
theorem eqMessageS (a a' : Option Addr) (c c' : Nat) (xs : List MsgV) (w : World) (hx : RdG EMsg w a xs) (hy : RdG EMsg w a' xs) (hl : xs.length ≤ 1048576) :
    Calls Try.prog 58 #[.slice a xs.length c, .slice a' xs.length c'] w fun e w' => e = .returned (.bool true) ∧ Below w.heap.size w w' := by
  rcases hx with rfl | ⟨b, off, rfl, hc⟩
  · go_enter Try.func58, Try.ntmps58
    go_wp2
    go_rounds 1
    go_ret
    exact ⟨rfl, Below.refl _ _⟩
  · rcases hy with rfl | ⟨b', off', rfl, hc'⟩
    · go_enter Try.func58, Try.ntmps58
      go_wp2
      go_rounds 1
      go_ret
      exact ⟨rfl, Below.refl _ _⟩
    · have HC := Lib.hid hc
      have HC' := Lib.hid hc'
      clear hc hc'
      go_enter Try.func58, Try.ntmps58
      go_wp2
      go_loopw [5] (fun i wr => ∃ k : Nat, k ≤ xs.length ∧ i = .int .i64 k ∧ Below w.heap.size w wr) (fun i _ => xs.length - (intOf i).toNat)
      case atStart => exact ⟨0, Nat.zero_le _, rfl, Below.refl _ _⟩
      case round =>
        obtain ⟨k, hk, rfl, hnx⟩ := hrel
        by_cases hlt : k < xs.length
        · obtain ⟨x, ho⟩ : ∃ x, x = xs.getD k zMsg := ⟨_, rfl⟩
          have HR := Lib.hid (by rw [ho]; exact rangeAt_below (HC.out k hlt) hnx (rangeAt_ltG EMsg (HC.out k hlt)) : wr.rangeAt b (off + k * 13) (EMsg.L x))
          have HR' := Lib.hid (by rw [ho]; exact rangeAt_below (HC'.out k hlt) hnx (rangeAt_ltG EMsg (HC'.out k hlt)) : wr.rangeAt b' (off' + k * 13) (EMsg.L x))
          have HE := Lib.hid (fun W => eqMessage_refl x W)
          clear ho
          have hk0 : (0 : Int) ≤ (k : Int) := Int.natCast_nonneg _
          have hk1 : (k : Int) < (xs.length : Int) := by omega
          go_wp2
          refine region_lit (C := fun W => Below wr.heap.size wr W) (by kernel_rfl) (by kernel_rfl) (Below.refl _ _).drew ?_
          repeat (
            first
              | (with_reducible refine quiet_iMsg rfl _ rfl rfl (fun W hW => rangeAt_below HR.out hW (rangeAt_ltG EMsg HR.out)) ?_)
              | (with_reducible refine quiet_iMsg rfl _ rfl rfl (fun W hW => rangeAt_below HR'.out hW (rangeAt_ltG EMsg HR'.out)) ?_)
              | (refine wpQuiet_step (fun K hK => ?_)
                 go_simp
                 first
                   | (refine hK _ ?_; clear hK K)
                   | (apply Exists.intro
                      refine ⟨fun W hW => ?_, hK _ ?_⟩
                      · first
                          | (go_simp; exact rfl)
                          | (go_simp; exact ⟨rfl, rfl⟩)
                          | with_reducible exact (HE.out _).mono (fun e wn ⟨he, hbn⟩ => ⟨he, hW.trans (hbn.mono hW.size)⟩)
                          | with_reducible exact ⟨rfl, (HE.out _).mono (fun e wn ⟨he, hbn⟩ => ⟨he, hW.trans (hbn.mono hW.size)⟩)⟩
                      clear hK K)))
          refine wpQuiet_nil ?_
          intro W hW
          go_wp2
          go_roundw
          case rel => exact ⟨k + 1, by omega, by go_num, hnx.trans (hW.mono hnx.size)⟩
          case measure => simp [intOf]; omega
        · obtain rfl : k = xs.length := by omega
          go_wp2
          go_ret
          exact ⟨rfl, hnx⟩

end Go.Proofs.Ytdbnflgckcjlcaa.MsB
