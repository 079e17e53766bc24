/-
  UndoTarget of the program and of the model: contracts. For slices that read as a list of at most 2^20 operations.
-/
import Derived.Test.YtlogpbejfifgdaaUtA
import Derived.Test.YtlogpbejfifgdaaLiC
import Derived.Test.YtlogpbejfifgdaaK4
import Derived.Outline
namespace Go.Proofs.Ytlogpbejfifgdaa.UtB
open Go.RowKit Go.Proofs.Ytlogpbejfifgdaa.Base Go.Proofs.Ytlogpbejfifgdaa.St Go.Proofs.Ytlogpbejfifgdaa.StB Go.Proofs.Ytlogpbejfifgdaa.OpA Go.Proofs.Ytlogpbejfifgdaa.OpB Go.Proofs.Ytlogpbejfifgdaa.LgA Go.Proofs.Ytlogpbejfifgdaa.LgB Go.Proofs.Ytlogpbejfifgdaa.LgC Go.Proofs.Ytlogpbejfifgdaa.LgF Go.Proofs.Ytlogpbejfifgdaa.LgH Go.Proofs.Ytlogpbejfifgdaa.LgI Go.Proofs.Ytlogpbejfifgdaa.LgP Go.Proofs.Ytlogpbejfifgdaa.LiA Go.Proofs.Ytlogpbejfifgdaa.LiB Go.Proofs.Ytlogpbejfifgdaa.LiC Go.Proofs.Ytlogpbejfifgdaa.RdB Go.Proofs.Ytlogpbejfifgdaa.UtA
set_option linter.unusedVariables false
attribute [local go_sem ↓] Go.wp_at_zero Go.wp_at_succ
attribute [local irreducible] Go.wpQuiet

/-- Block k is a stamp's own box. -/
def Sx (k : Nat) (s t : Int) (W : World) : Prop :=
  k < W.heap.size ∧ W.cell? ⟨k, 0, none⟩ = some (.int .i64 s) ∧ W.cell? ⟨k, 1, none⟩ = some (.int .i64 t) ∧ W.frozen? ⟨k, 0, none⟩ = false ∧ W.frozen? ⟨k, 1, none⟩ = false
theorem Sx.new (w : World) (T : TypeId) : Sx w.heap.size 0 0 (w.alloc (.cells #[.int .i64 0, .int .i64 0] T)) := by
  refine ⟨by simp, ?_⟩
  simp [go_sem]
theorem Sx.below {n k : Nat} {s t : Int} {W W' : World} (h : Sx k s t W) (hb : Below n W W') (hn : k < n) : Sx k s t W' := by
  obtain ⟨h0, h1, h2, h3, h4⟩ := h
  have := hb.size
  exact ⟨by omega, (hb.cell (p := ⟨k, 0, none⟩) hn).trans h1, (hb.cell (p := ⟨k, 1, none⟩) hn).trans h2, (hb.frozen (p := ⟨k, 0, none⟩) hn).trans h3, (hb.frozen (p := ⟨k, 1, none⟩) hn).trans h4⟩
theorem Sx.wr {k R : Nat} {s t : Int} {W W' : World} (h : Sx k s t W) (hw : Wr R W W') (hne : k ≠ R) : Sx k s t W' := by
  obtain ⟨h0, h1, h2, h3, h4⟩ := h
  exact ⟨Nat.lt_of_lt_of_le h0 hw.size, (hw.cell h0 hne).trans h1, (hw.cell h0 hne).trans h2, (hw.frozen h0 hne).trans h3, (hw.frozen h0 hne).trans h4⟩
theorem Sx.set {k : Nat} {s t : Int} {W : World} (h : Sx k s t W) (s' t' : Int) : Sx k s' t' ((W.setCell ⟨k, 0, none⟩ (.int .i64 s')).setCell ⟨k, 1, none⟩ (.int .i64 t')) := by
  obtain ⟨h0, h1, h2, h3, h4⟩ := h
  refine ⟨by simpa using h0, ?_⟩
  simp [go_sem, h1, h2, h3, h4]

theorem act_bad {os : List OpV} (h : vlog os = false) : act os = [] := by unfold act; rw [h]; rfl
theorem act_ok {os : List OpV} (h : vlog os = true) : act os = actv os := by unfold act; rw [h]; rfl

set_option maxRecDepth 100000 in
set_option maxHeartbeats 4000000 in
theorem impl_UndoTarget (a : Option Addr) (c : Nat) (os : List OpV) (who : Int) (w : World) (hr : RdO w a os) (hl : os.length ≤ 1048576) (ht : ∀ k, k < os.length → (os.getD k zop).tx.size ≤ maxLen) :
    Calls Try.prog 21 #[.slice a os.length c, .int .i64 who] w fun e w' => e = .returned (.agg #[.int .i64 (ut os who).1, .int .i64 (ut os who).2]) ∧ Below w.heap.size w w' := by
  have B0 : Below w.heap.size w (w.alloc (.cells #[.int .i64 0, .int .i64 0] 25)) := (Below.refl _ _).alloc (Nat.le_refl _) _
  have HA0 := impl_ActiveOps a c os _ (hr.below B0) hl ht
  have HB0 := Lib.hid B0
  have S0 := Lib.hid (Sx.new w 25)
  have HR := Lib.hid hr
  clear hr ht B0
  obtain ⟨⟨s, t⟩, hst⟩ : ∃ st, ut os who = st := ⟨_, rfl⟩
  obtain ⟨p, hp⟩ : ∃ p, vlog os = p := ⟨_, rfl⟩
  rw [hst]
  cases p
  · rw [act_bad hp] at HA0
    have h00 : (s, t) = ((0, 0) : Int × Int) := by rw [← hst, ut, if_neg (by rw [hp]; exact Bool.false_ne_true)]
    obtain ⟨rfl, rfl⟩ : s = 0 ∧ t = 0 := by cases h00; exact ⟨rfl, rfl⟩
    have HA := Lib.hid HA0
    clear HA0 hp hst h00
    go_enter Try.func21, Try.ntmps21
    go_wp2_with fail
    refine HA.out.mono ?_
    rintro e w1 ⟨a1, c1, rfl, row1, b1⟩
    have HB1 := Lib.hid (HB0.out.trans (b1.mono (by simp)))
    obtain ⟨x0, x1, x2, x3, x4⟩ := S0.out.below b1 (by simp)
    clear b1 row1
    go_wp2
    go_rounds 1
    refine bodyPost_ret (v := .agg #[.int .i64 0, .int .i64 0]) (by simp [results, Try.results21, go_sem, x1, x2]) rfl ⟨rfl, ?_⟩
    exact (HB1.out.setCell (Nat.le_refl _) _).setCell (Nat.le_refl _) _
  · rw [act_ok hp] at HA0
    have hut : utv os who os.length = (s, t) := by rw [← hst, ut, if_pos hp]
    have hlen := actv_len os
    have HGet := Lib.hid (fun (i : Nat) (hi : i < os.length) => actv_get os hi)
    obtain ⟨res, hres⟩ : ∃ res, res = actv os := ⟨_, rfl⟩
    rw [← hres] at HA0 hlen HGet
    have HA := Lib.hid HA0
    have HU := Lib.hid hut
    clear HA0 hp hst hut hres
    go_enter Try.func21, Try.ntmps21
    go_wp2_with fail
    refine HA.out.mono ?_
    rintro e w1 ⟨a1, c1, rfl, row1, b1⟩
    have HB1 := Lib.hid (HB0.out.trans (b1.mono (by simp)))
    have S1 := Lib.hid (S0.out.below b1 (by simp))
    have hz1 : w.heap.size < w1.heap.size := S1.out.1
    have HRow := Lib.hid row1
    rw [hlen]
    rw [hlen] at HRow
    clear b1 row1
    go_wp2
    go_loopw [6] (fun i wr => ∃ (k : Nat) (z : Int), k ≤ os.length ∧ i = .int .i64 z ∧ z = (k : Int) - 1 ∧ Hid (utv os who k = (s, t)) ∧ Below w1.heap.size w1 wr) (fun i _ => (intOf i + 1).toNat)
    case atStart => exact ⟨os.length, (os.length : Int) - 1, Nat.le_refl _, by go_num, rfl, HU.out, Below.refl _ _⟩
    case round =>
      obtain ⟨k, z, hk, rfl, hz, hu, hnx⟩ := hrel
      have HNX := Lib.hid hnx
      rcases k with _ | m
      · obtain rfl : z = -1 := by omega
        obtain ⟨rfl, rfl⟩ : s = 0 ∧ t = 0 := by have e : ((0, 0) : Int × Int) = (s, t) := hu.out; cases e; exact ⟨rfl, rfl⟩
        obtain ⟨x0, x1, x2, x3, x4⟩ := S1.out.below hnx hz1
        clear hnx hz
        go_wp2
        refine bodyPost_ret (v := .agg #[.int .i64 0, .int .i64 0]) (by simp [results, Try.results21, go_sem, x1, x2]) rfl ⟨rfl, ?_⟩
        exact ((HB1.out.trans (HNX.out.mono (by omega))).setCell (Nat.le_refl _) _).setCell (Nat.le_refl _) _
      · obtain rfl : z = (m : Int) := by omega
        rcases HR.out with h0 | ⟨b, off, rfl, hc⟩
        · rw [h0] at hk; exact absurd hk (by simp)
        rcases HRow.out with ⟨_, h0⟩ | ⟨bl, rfl, hbl, ol⟩
        · omega
        have hm : m < os.length := by omega
        obtain ⟨q, hq⟩ : ∃ q, q = os.getD m zop := ⟨_, rfl⟩
        have hB := HB1.out.trans (hnx.mono (by omega))
        have HRQ := Lib.hid (by rw [hq]; exact rangeAt_below (hc m hm) hB (rangeAt_lt (hc m hm)) : wr.rangeAt b (off + m * 12) (opL q))
        obtain ⟨lv, hlv⟩ : ∃ lv, liv os m (os.length - (m + 1)) = lv := ⟨_, rfl⟩
        have HL := Lib.hid (show OwnB wr bl c1 os.length (fun i => res.getD i false) from ol.below hnx)
        have hgl : res.getD m false = lv := by rw [HGet.out m hm, hlv]
        have HCL := Lib.hid (fun W (hW : Below wr.heap.size wr W) => (by rw [← hgl]; exact (HL.out.below hW).cell hm : W.cell? ⟨bl, m, none⟩ = some (.bool lv)))
        have hh : hitU os who m = (lv && (!decide (q.k = 10) && decide (q.j = who))) := by rw [hitU, hlv, hq]
        have HH := Lib.hid hh
        have HQ := Lib.hid hq
        have S2 := Lib.hid (S1.out.below hnx hz1)
        have hzw := hnx.size
        clear hq hnx hz hB hgl hlv hh hc ol
        have hk0 : (0 : Int) ≤ (m : Int) := Int.natCast_nonneg _
        have hk1 : (m : Int) < (os.length : Int) := by omega
        have hk2 : (m : Int) < (res.length : Int) := by omega
        rcases (show lv = false ∨ (lv = true ∧ q.k = 10) ∨ (lv = true ∧ ¬ q.k = 10 ∧ ¬ q.j = who) ∨ (lv = true ∧ ¬ q.k = 10 ∧ q.j = who) by cases lv <;> simp <;> omega) with e0 | ⟨e0, e1⟩ | ⟨e0, e1, e2⟩ | ⟨e0, e1, e2⟩
        · have hh : hitU os who m = false := by rw [HH.out]; simp [e0]
          have HN := Lib.hid (show utv os who m = (s, t) by rw [← utv_no hh]; exact hu.out)
          subst e0
          clear hh 
          have y0 := HCL.out wr (Below.refl _ _)
          obtain ⟨q0, q1, q2, q3, q4, q5, q6, q7, q8, q9, q10, q11⟩ := c12 HRQ.out
          go_wp2
          go_roundw
          case rel => exact ⟨m, (m : Int) - 1, by omega, by go_num, rfl, HN.out, HNX.out⟩
          case measure => simp [intOf]
        · have hh : hitU os who m = false := by rw [HH.out]; simp [e1]
          have HN := Lib.hid (show utv os who m = (s, t) by rw [← utv_no hh]; exact hu.out)
          subst e0
          have g0 : (q.k != 10) = false := by simp [e1]
          clear hh e1
          have y0 := HCL.out wr (Below.refl _ _)
          obtain ⟨q0, q1, q2, q3, q4, q5, q6, q7, q8, q9, q10, q11⟩ := c12 HRQ.out
          go_wp2
          go_roundw
          case rel => exact ⟨m, (m : Int) - 1, by omega, by go_num, rfl, HN.out, HNX.out⟩
          case measure => simp [intOf]
        · have hh : hitU os who m = false := by rw [HH.out]; simp [e2]
          have HN := Lib.hid (show utv os who m = (s, t) by rw [← utv_no hh]; exact hu.out)
          subst e0
          have g0 : (q.k != 10) = true := by simp [e1]
          have g1 : (q.j == who) = false := by simp [e2]
          clear hh e1 e2
          have y0 := HCL.out wr (Below.refl _ _)
          obtain ⟨q0, q1, q2, q3, q4, q5, q6, q7, q8, q9, q10, q11⟩ := c12 HRQ.out
          go_wp2
          go_roundw
          case rel => exact ⟨m, (m : Int) - 1, by omega, by go_num, rfl, HN.out, HNX.out⟩
          case measure => simp [intOf]
        · have hh : hitU os who m = true := by rw [HH.out]; simp [e0, e1, e2]
          obtain ⟨rfl, rfl⟩ : s = q.i ∧ t = q.j := by have e := hu.out; rw [utv_yes hh, ← HQ.out] at e; cases e; exact ⟨rfl, rfl⟩
          subst e0
          have g0 : (q.k != 10) = true := by simp [e1]
          have g1 : (q.j == who) = true := by simp [e2]
          clear hh e1 e2
          have y0 := HCL.out wr (Below.refl _ _)
          obtain ⟨q0, q1, q2, q3, q4, q5, q6, q7, q8, q9, q10, q11⟩ := c12 HRQ.out
          obtain ⟨x0, x1, x2, x3, x4⟩ := S2.out
          go_wp2
          refine bodyPost_ret (v := .agg #[.int .i64 q.i, .int .i64 q.j]) (by simp [results, Try.results21, go_sem, x1, x2]) rfl ⟨rfl, ?_⟩
          exact ((HB1.out.trans (HNX.out.mono (by omega))).setCell (Nat.le_refl _) _).setCell (Nat.le_refl _) _

set_option maxRecDepth 100000 in
set_option maxHeartbeats 4000000 in
theorem spec_UndoTarget (a : Option Addr) (c : Nat) (os : List OpV) (who : Int) (w : World) (hr : RdO w a os) (hl : os.length ≤ 1048576) (ht : ∀ k, k < os.length → (os.getD k zop).tx.size ≤ maxLen) :
    Calls Try.prog 22 #[.slice a os.length c, .int .i64 who] w fun e w' => e = .returned (.agg #[.int .i64 (ut os who).1, .int .i64 (ut os who).2]) ∧ Below w.heap.size w w' := by
  have HV0 := fun W (h : Below w.heap.size w W) => spec_validLog svop a c os W (hr.below h) hl ht
  have HP := Lib.hid (fun W (h : Below w.heap.size w W) => spec_activeOps a c os W (hr.below h) hl)
  obtain ⟨w0, hw0⟩ : ∃ w0, w0 = w.alloc (.cells #[.int .i64 0, .int .i64 0] 25) := ⟨_, rfl⟩
  have hz0 : w0.heap.size = w.heap.size + 1 := by rw [hw0]; simp
  have B0 : Below w.heap.size w w0 := by rw [hw0]; exact (Below.refl _ _).alloc (Nat.le_refl _) _
  have S0 : Sx w.heap.size 0 0 w0 := by rw [hw0]; exact Sx.new w 25
  obtain ⟨wx, hwx⟩ : ∃ wx, wx = w0.alloc (.cells #[.int .i64 0, .int .i64 0] 25) := ⟨_, rfl⟩
  have hzx : wx.heap.size = w.heap.size + 2 := by rw [hwx]; simp; omega
  have SX : Sx (w.heap.size + 1) 0 0 wx := by rw [hwx, ← hz0]; exact Sx.new w0 25
  have WX : Wr (w.heap.size + 1) w0 wx := by rw [hwx]; exact (Wr.refl _ w0).alloc _
  have SR : Sx w.heap.size 0 0 wx := S0.wr WX (by omega)
  have BX : Below w.heap.size w wx := B0.trans (WX.below (by omega) (by omega))
  have HWX := Lib.hid (by rw [hwx, hw0] : wx = (w.alloc (.cells #[.int .i64 0, .int .i64 0] 25)).alloc (.cells #[.int .i64 0, .int .i64 0] 25))
  have HSX := Lib.hid SX
  have HSR := Lib.hid SR
  have HBX := Lib.hid BX
  have HR := Lib.hid hr
  clear hr ht B0 S0 hwx hw0 SX SR BX WX
  obtain ⟨⟨s, t⟩, hst⟩ : ∃ st, ut os who = st := ⟨_, rfl⟩
  obtain ⟨p, hp⟩ : ∃ p, vlog os = p := ⟨_, rfl⟩
  rw [hst]
  rw [hp] at HV0
  have HV := Lib.hid (HV0 wx HBX.out)
  clear HV0
  cases p
  · have h00 : (s, t) = ((0, 0) : Int × Int) := by rw [← hst, ut, if_neg (by rw [hp]; exact Bool.false_ne_true)]
    obtain ⟨rfl, rfl⟩ : s = 0 ∧ t = 0 := by cases h00; exact ⟨rfl, rfl⟩
    clear hp hst h00
    go_enter Try.func22, Try.ntmps22
    go_wp2_with fail
    rw [← HWX.out]
    refine HV.out.mono ?_
    rintro e w1 ⟨rfl, b1⟩
    have HB1 := Lib.hid (HBX.out.trans (b1.mono (by omega)))
    obtain ⟨x0, x1, x2, x3, x4⟩ := HSR.out.below b1 (by omega)
    obtain ⟨y0, y1, y2, y3, y4⟩ := HSX.out.below b1 (by omega)
    clear b1 hz0 hzx
    go_wp2
    refine bodyPost_ret (v := .agg #[.int .i64 0, .int .i64 0]) (by simp [results, Try.results22, go_sem, x1, x2]) rfl ⟨rfl, ?_⟩
    exact (HB1.out.setCell (Nat.le_refl _) _).setCell (Nat.le_refl _) _
  · have hut : utv os who os.length = (s, t) := by rw [← hst, ut, if_pos hp]
    have hlen := actv_len os
    have HGet := Lib.hid (fun (i : Nat) (hi : i < os.length) => actv_get os hi)
    obtain ⟨res, hres⟩ : ∃ res, res = actv os := ⟨_, rfl⟩
    rw [← hres] at HP hlen HGet
    have HU := Lib.hid hut
    clear hp hst hut hres
    go_enter Try.func22, Try.ntmps22
    go_wp2_with fail
    rw [← HWX.out]
    refine HV.out.mono ?_
    rintro e w1 ⟨rfl, b1⟩
    have HB1 := Lib.hid (HBX.out.trans (b1.mono (by omega)))
    have R1 := Lib.hid (HSR.out.below b1 (by omega))
    have X1 := Lib.hid (HSX.out.below b1 (by omega))
    have hz1 := b1.size
    clear b1 HV
    go_wp2_with fail
    refine (HP.out _ HB1.out).mono ?_
    rintro e w2 ⟨a1, c1, rfl, row1, b2⟩
    have HB2 := Lib.hid (HB1.out.trans (b2.mono (by omega)))
    have R2 := Lib.hid (R1.out.below b2 R1.out.1)
    have X2 := Lib.hid (X1.out.below b2 X1.out.1)
    have hz2 := b2.size
    have HRow := Lib.hid row1
    rw [hlen] at HRow
    clear b2 row1 R1 X1 HSR HSX HBX
    obtain ⟨n, hn⟩ : ∃ n, n = w.heap.size := ⟨_, rfl⟩
    have hn2 : n + 2 ≤ w1.heap.size := by omega
    go_wp2
    rw [← hn] at R2 X2
    go_loopw [7] (fun i wr => ∃ k : Nat, k ≤ os.length ∧ i = .int .i64 k ∧ Hid (Sx (n + 1) (utv os who k).1 (utv os who k).2 wr) ∧ Hid (Sx n 0 0 wr) ∧ Wr (n + 1) w2 wr) (fun i _ => os.length - (intOf i).toNat)
    case atStart => exact ⟨0, Nat.zero_le _, rfl, X2.out, R2.out, Wr.refl _ _⟩
    case round =>
      obtain ⟨k, hk, rfl, hx, hs, hw⟩ := hrel
      have HW := Lib.hid hw
      have hzw := hw.size
      by_cases hlt : k < os.length
      · rcases HR.out with h0 | ⟨b, off, rfl, hc⟩
        · rw [h0] at hlt; exact absurd hlt (by simp)
        rcases HRow.out with ⟨_, h0⟩ | ⟨bl, rfl, hbl, ol⟩
        · omega
        obtain ⟨q, hq⟩ : ∃ q, q = os.getD k zop := ⟨_, rfl⟩
        have hB : Below w.heap.size w wr := HB2.out.trans (hw.below (by omega) (by omega))
        have HRQ := Lib.hid (by rw [hq]; exact rangeAt_below (hc k hlt) hB (rangeAt_lt (hc k hlt)) : wr.rangeAt b (off + k * 12) (opL q))
        obtain ⟨lv, hlv⟩ : ∃ lv, liv os k (os.length - (k + 1)) = lv := ⟨_, rfl⟩
        have HL := Lib.hid (show OwnB wr bl c1 os.length (fun i => res.getD i false) from ol.of_block (hw.block bl ol.lt (by omega)))
        have hgl : res.getD k false = lv := by rw [HGet.out k hlt, hlv]
        have HCL := Lib.hid (fun W (hW : Below wr.heap.size wr W) => (by rw [← hgl]; exact (HL.out.below hW).cell hlt : W.cell? ⟨bl, k, none⟩ = some (.bool lv)))
        have hh : hitU os who k = (lv && (!decide (q.k = 10) && decide (q.j = who))) := by rw [hitU, hlv, hq]
        have HH := Lib.hid hh
        have HQ := Lib.hid hq
        clear hq hw hB hgl hlv hh hc ol
        have hk0 : (0 : Int) ≤ (k : Int) := Int.natCast_nonneg _
        have hk1 : (k : Int) < (os.length : Int) := by omega
        have hk2 : (k : Int) < (res.length : Int) := by omega
        rcases (show (¬ q.j = who) ∨ (q.j = who ∧ q.k = 10) ∨ (q.j = who ∧ ¬ q.k = 10 ∧ lv = false) ∨ (q.j = who ∧ ¬ q.k = 10 ∧ lv = true) by cases lv <;> simp <;> omega) with e0 | ⟨e0, e1⟩ | ⟨e0, e1, e2⟩ | ⟨e0, e1, e2⟩
        · have hh : hitU os who k = false := by rw [HH.out]; simp [e0]
          have hu1 := utv_no hh
          have HU1 := Lib.hid hu1
          have g0 : (q.j == who) = false := by simp [e0]
          clear hh hu1 e0
          have y0 := HCL.out wr (Below.refl _ _)
          obtain ⟨q0, q1, q2, q3, q4, q5, q6, q7, q8, q9, q10, q11⟩ := c12 HRQ.out
          have HXW := Lib.hid hx.out
          have HSW := Lib.hid hs.out
          have HWW := HW
          go_wp2
          go_roundw
          case rel => exact ⟨k + 1, by omega, by go_num, (by rw [HU1.out]; exact HXW.out : Sx _ _ _ _), HSW.out, HWW.out⟩
          case measure => simp [intOf]; omega
        · have hh : hitU os who k = false := by rw [HH.out]; simp [e1]
          have hu1 := utv_no hh
          have HU1 := Lib.hid hu1
          have g0 : (q.j == who) = true := by simp [e0]
          have g1 : (q.k != 10) = false := by simp [e1]
          clear hh hu1 e0 e1
          have y0 := HCL.out wr (Below.refl _ _)
          obtain ⟨q0, q1, q2, q3, q4, q5, q6, q7, q8, q9, q10, q11⟩ := c12 HRQ.out
          have HXW := Lib.hid hx.out
          have HSW := Lib.hid hs.out
          have HWW := HW
          go_wp2
          go_roundw
          case rel => exact ⟨k + 1, by omega, by go_num, (by rw [HU1.out]; exact HXW.out : Sx _ _ _ _), HSW.out, HWW.out⟩
          case measure => simp [intOf]; omega
        · have hh : hitU os who k = false := by rw [HH.out]; simp [e2]
          have hu1 := utv_no hh
          have HU1 := Lib.hid hu1
          have g0 : (q.j == who) = true := by simp [e0]
          have g1 : (q.k != 10) = true := by simp [e1]
          subst e2
          clear hh hu1 e0 e1
          have y0 := HCL.out wr (Below.refl _ _)
          obtain ⟨q0, q1, q2, q3, q4, q5, q6, q7, q8, q9, q10, q11⟩ := c12 HRQ.out
          have HXW := Lib.hid hx.out
          have HSW := Lib.hid hs.out
          have HWW := HW
          go_wp2
          go_roundw
          case rel => exact ⟨k + 1, by omega, by go_num, (by rw [HU1.out]; exact HXW.out : Sx _ _ _ _), HSW.out, HWW.out⟩
          case measure => simp [intOf]; omega
        · have hh : hitU os who k = true := by rw [HH.out]; simp [e0, e1, e2]
          have hu1 := utv_yes hh
          rw [← HQ.out] at hu1
          have HU1 := Lib.hid hu1
          have g0 : (q.j == who) = true := by simp [e0]
          have g1 : (q.k != 10) = true := by simp [e1]
          subst e2
          clear hh hu1 e0 e1
          have y0 := HCL.out wr (Below.refl _ _)
          obtain ⟨q0, q1, q2, q3, q4, q5, q6, q7, q8, q9, q10, q11⟩ := c12 HRQ.out
          have HXW := Lib.hid hx.out
          have HSW := Lib.hid hs.out
          have HWW := HW
          obtain ⟨x0, x1, x2, x3, x4⟩ := HXW.out
          rw [hn] at x0 x1 x2 x3 x4
          go_wp2
          rw [← hn]
          go_roundw
          case rel => exact ⟨k + 1, by omega, by go_num, (by rw [HU1.out]; exact HXW.out.set _ _ : Sx _ _ _ _), (HSW.out.wr ((Wr.set _ (n + 1) _ _).trans (Wr.set _ (n + 1) _ _)) (by omega) : Sx _ _ _ _), HWW.out.trans ((Wr.set _ (n + 1) _ _).trans (Wr.set _ (n + 1) _ _))⟩
          case measure => simp [intOf]; omega
      · obtain rfl : k = os.length := by omega
        have HB3 := Lib.hid (show Below w.heap.size w wr from HB2.out.trans (hw.below (by omega) (by omega)))
        obtain ⟨x0, x1, x2, x3, x4⟩ := hx.out
        obtain ⟨y0, y1, y2, y3, y4⟩ := hs.out
        rw [HU.out] at x1 x2
        rw [hn] at x0 x1 x2 x3 x4 y0 y1 y2 y3 y4
        clear hw hn hz0 hzx hn2
        go_wp2
        refine bodyPost_ret (v := .agg #[.int .i64 s, .int .i64 t]) (by simp [results, Try.results22, go_sem, y1, y2]) rfl ⟨rfl, ?_⟩
        exact (HB3.out.setCell (Nat.le_refl _) _).setCell (Nat.le_refl _) _

end Go.Proofs.Ytlogpbejfifgdaa.UtB
