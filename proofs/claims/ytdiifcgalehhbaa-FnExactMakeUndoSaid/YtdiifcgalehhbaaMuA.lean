/-
  IndexFunc of the library at a predicate that is a closure over one variable, the closure of MakeUndo, findOp of the model; what an undo is, as a value. For slices that read as a list of at most 2^20 operations.
-/
import Derived.Test.YtdiifcgalehhbaaMoB
import Derived.Test.YtdiifcgalehhbaaK5
import Derived.Test.YtdiifcgalehhbaaLwA
import Derived.Test.YtdiifcgalehhbaaLvA
import Derived.Test.YtdiifcgalehhbaaK3
import Derived.Test.YtdiifcgalehhbaaVdC
import Derived.Outline
namespace Go.Proofs.Ytdiifcgalehhbaa.MuA
open Go.RowKit Go.Proofs.Ytdiifcgalehhbaa.Base Go.Proofs.Ytdiifcgalehhbaa.St Go.Proofs.Ytdiifcgalehhbaa.StB Go.Proofs.Ytdiifcgalehhbaa.OpA Go.Proofs.Ytdiifcgalehhbaa.OpB Go.Proofs.Ytdiifcgalehhbaa.LgA Go.Proofs.Ytdiifcgalehhbaa.LgB Go.Proofs.Ytdiifcgalehhbaa.LgC Go.Proofs.Ytdiifcgalehhbaa.LgF Go.Proofs.Ytdiifcgalehhbaa.LgP Go.Proofs.Ytdiifcgalehhbaa.LgQ Go.Proofs.Ytdiifcgalehhbaa.LgR Go.Proofs.Ytdiifcgalehhbaa.LgW Go.Proofs.Ytdiifcgalehhbaa.LgZ Go.Proofs.Ytdiifcgalehhbaa.LiA Go.Proofs.Ytdiifcgalehhbaa.LwA Go.Proofs.Ytdiifcgalehhbaa.LvA Go.Proofs.Ytdiifcgalehhbaa.MoA Go.Proofs.Ytdiifcgalehhbaa.MoB Go.Proofs.Ytdiifcgalehhbaa.VecE Go.Proofs.Ytdiifcgalehhbaa.Vec Go.Proofs.Ytdiifcgalehhbaa.VecA Go.Proofs.Ytdiifcgalehhbaa.VecD Go.Proofs.Ytdiifcgalehhbaa.VdC
set_option linter.unusedVariables false
attribute [local go_sem ↓] Go.wp_at_zero Go.wp_at_succ
attribute [local irreducible] Go.wpQuiet

set_option maxRecDepth 100000 in
set_option maxHeartbeats 2000000 in
theorem spec_findOp (A : Option Addr) (c : Nat) (os : List OpV) (s t : Int) (w : World) (hr : RdO w A os) (hl : os.length ≤ 1048576) :
    Calls Try.prog 19 #[.slice A os.length c, .agg #[.int .i64 s, .int .i64 t]] w fun e w' => ((∃ k : Nat, e = .returned (.int .i64 k) ∧ k < os.length ∧ (os.getD k zop).i = s ∧ (os.getD k zop).j = t) ∨ (e = .returned (.int .i64 (-1)) ∧ ∀ m, m < os.length → ¬ ((os.getD m zop).i = s ∧ (os.getD m zop).j = t))) ∧ Below w.heap.size w w' := by
  have HA := Lib.hid hr
  clear hr
  go_enter Try.func19, Try.ntmps19
  go_wp2
  go_loopw [5] (fun i wr => ∃ k : Nat, k ≤ os.length ∧ i = .int .i64 k ∧ Hid (∀ m, m < k → ¬ ((os.getD m zop).i = s ∧ (os.getD m zop).j = t)) ∧ Below w.heap.size w wr ∧ wr.cell? ⟨w.heap.size, 0, none⟩ = some (.int .i64 s) ∧ wr.cell? ⟨w.heap.size, 1, none⟩ = some (.int .i64 t)) (fun i _ => os.length - (intOf i).toNat)
  case atStart => exact ⟨0, Nat.zero_le _, rfl, fun m hm => absurd hm (by omega), (Below.refl _ _).alloc (Nat.le_refl _) _, by simp [go_sem], by simp [go_sem]⟩
  case round =>
    obtain ⟨k, hkn, rfl, hall, hnx, hc0, hc1⟩ := hrel
    by_cases hlt : k < os.length
    · rcases HA.out with h0 | ⟨b, off, rfl, hcc⟩
      · rw [h0] at hlt
        cases hlt
      obtain ⟨q, hq⟩ : ∃ q, q = os.getD k zop := ⟨_, rfl⟩
      have HR := Lib.hid (by rw [hq]; exact rangeAt_below (hcc k hlt) hnx (rangeAt_lt (hcc k hlt)) : wr.rangeAt b (off + k * 12) (opL q))
      have HQ := Lib.hid hq
      have H0 := Lib.hid hc0
      have H1 := Lib.hid hc1
      have hlw : w.heap.size < wr.heap.size := World.block_lt_of_cell? wr _ hc0
      clear hq hcc hc0 hc1
      have hk0 : (0 : Int) ≤ (k : Int) := Int.natCast_nonneg _
      have hk1 : (k : Int) < (os.length : Int) := by omega
      rcases (show (q.i = s ∧ q.j = t) ∨ (¬ q.i = s) ∨ (q.i = s ∧ ¬ q.j = t) from by omega) with ⟨e1, e2⟩ | e1 | ⟨e1, e2⟩
      · have HS := Lib.hid (show (os.getD k zop).i = s ∧ (os.getD k zop).j = t from by rw [← HQ.out]; exact ⟨e1, e2⟩)
        have g1 : (q.i == s) = true := by simp [e1]
        have g2 : (q.j == t) = true := by simp [e2]
        clear e1 e2
        go_wp2
        refine region_lit (C := fun W => Below wr.heap.size wr W) (by kernel_rfl) (by kernel_rfl) (Below.refl _ _).drew ?_
        repeat (
          first
            | (refine wpQuiet_step (fun K hK => ?_)
               go_simp
               first
                 | (refine hK _ ?_; clear hK K)
                 | (apply Exists.intro
                    refine ⟨fun W hW => ?_, hK _ ?_⟩
                    · have x0 := (hW.cell (p := ⟨w.heap.size, 0, none⟩) hlw).trans H0.out
                      have x1 := (hW.cell (p := ⟨w.heap.size, 1, none⟩) hlw).trans H1.out
                      obtain ⟨q0, q1, q2, q3, q4, q5, q6, q7, q8, q9, q10, q11⟩ := c12 (rangeAt_below HR.out hW (rangeAt_lt HR.out))
                      first
                        | (go_simp; exact rfl)
                        | (go_simp; exact ⟨rfl, rfl⟩)
                    clear hK K)))
        refine wpQuiet_nil ?_
        intro W1 hW1
        have hB := hnx.trans (hW1.mono hnx.size)
        have y0 := (hW1.cell (p := ⟨w.heap.size, 0, none⟩) hlw).trans H0.out
        have y1 := (hW1.cell (p := ⟨w.heap.size, 1, none⟩) hlw).trans H1.out
        go_wp2
        go_ret
        exact ⟨.inl ⟨k, rfl, hlt, HS.out⟩, hB⟩
      · have HN := Lib.hid (all_succ hall.out (by rw [← HQ.out]; exact fun h => e1 h.1))
        have g1 : (q.i == s) = false := by simp [e1]
        clear e1
        go_wp2
        refine region_lit (C := fun W => Below wr.heap.size wr W) (by kernel_rfl) (by kernel_rfl) (Below.refl _ _).drew ?_
        repeat (
          first
            | (refine wpQuiet_step (fun K hK => ?_)
               go_simp
               first
                 | (refine hK _ ?_; clear hK K)
                 | (apply Exists.intro
                    refine ⟨fun W hW => ?_, hK _ ?_⟩
                    · have x0 := (hW.cell (p := ⟨w.heap.size, 0, none⟩) hlw).trans H0.out
                      have x1 := (hW.cell (p := ⟨w.heap.size, 1, none⟩) hlw).trans H1.out
                      obtain ⟨q0, q1, q2, q3, q4, q5, q6, q7, q8, q9, q10, q11⟩ := c12 (rangeAt_below HR.out hW (rangeAt_lt HR.out))
                      first
                        | (go_simp; exact rfl)
                        | (go_simp; exact ⟨rfl, rfl⟩)
                    clear hK K)))
        refine wpQuiet_nil ?_
        intro W1 hW1
        have hB := hnx.trans (hW1.mono hnx.size)
        have y0 := (hW1.cell (p := ⟨w.heap.size, 0, none⟩) hlw).trans H0.out
        have y1 := (hW1.cell (p := ⟨w.heap.size, 1, none⟩) hlw).trans H1.out
        go_wp2
        go_roundw
        case rel => exact ⟨k + 1, by omega, by go_num, HN.out, hB, y0, y1⟩
        case measure => simp [intOf]; omega
      · have HN := Lib.hid (all_succ hall.out (by rw [← HQ.out]; exact fun h => e2 h.2))
        have g1 : (q.i == s) = true := by simp [e1]
        have g2 : (q.j == t) = false := by simp [e2]
        clear e1 e2
        go_wp2
        refine region_lit (C := fun W => Below wr.heap.size wr W) (by kernel_rfl) (by kernel_rfl) (Below.refl _ _).drew ?_
        repeat (
          first
            | (refine wpQuiet_step (fun K hK => ?_)
               go_simp
               first
                 | (refine hK _ ?_; clear hK K)
                 | (apply Exists.intro
                    refine ⟨fun W hW => ?_, hK _ ?_⟩
                    · have x0 := (hW.cell (p := ⟨w.heap.size, 0, none⟩) hlw).trans H0.out
                      have x1 := (hW.cell (p := ⟨w.heap.size, 1, none⟩) hlw).trans H1.out
                      obtain ⟨q0, q1, q2, q3, q4, q5, q6, q7, q8, q9, q10, q11⟩ := c12 (rangeAt_below HR.out hW (rangeAt_lt HR.out))
                      first
                        | (go_simp; exact rfl)
                        | (go_simp; exact ⟨rfl, rfl⟩)
                    clear hK K)))
        refine wpQuiet_nil ?_
        intro W1 hW1
        have hB := hnx.trans (hW1.mono hnx.size)
        have y0 := (hW1.cell (p := ⟨w.heap.size, 0, none⟩) hlw).trans H0.out
        have y1 := (hW1.cell (p := ⟨w.heap.size, 1, none⟩) hlw).trans H1.out
        go_wp2
        go_roundw
        case rel => exact ⟨k + 1, by omega, by go_num, HN.out, hB, y0, y1⟩
        case measure => simp [intOf]; omega
    · obtain rfl : k = os.length := by omega
      go_wp2
      go_ret
      exact ⟨.inr ⟨rfl, hall.out⟩, hnx⟩


set_option maxHeartbeats 2000000 in
theorem closU (s t : Int) (o : OpV) (bx : Nat) (w : World) (h0 : w.cell? ⟨bx, 0, none⟩ = some (.int .i64 s)) (h1 : w.cell? ⟨bx, 1, none⟩ = some (.int .i64 t)) :
    Calls Try.prog 25 #[.agg #[.int .i64 o.i, .int .i64 o.j, .int .i64 o.k, .int .i64 o.ts, .int .i64 o.ta, .int .i64 o.fs, .int .i64 o.fa, .int .i64 o.ns, .int .i64 o.na, .int .i64 o.v, .bool o.en, .string o.tx], .pointer (some ⟨bx, 0, none⟩)] w fun e w' => e = .returned (.bool (decide (o.i = s) && decide (o.j = t))) ∧ Below w.heap.size w w' := by
  have lb : bx < w.heap.size := World.block_lt_of_cell? w _ h0
  by_cases a1 : o.i = s
  · by_cases a2 : o.j = t
    · have g1 : (o.i == s) = true := by simp [a1]
      have g2 : (o.j == t) = true := by simp [a2]
      have e : (decide (o.i = s) && decide (o.j = t)) = true := by simp [a1, a2]
      rw [e]
      clear e a1 a2
      go_enter Try.func25, Try.ntmps25
      go_wp2
      go_ret
      exact ⟨rfl, (Below.refl _ _).alloc (Nat.le_refl _) _⟩
    · have g1 : (o.i == s) = true := by simp [a1]
      have g2 : (o.j == t) = false := by simp [a2]
      have e : (decide (o.i = s) && decide (o.j = t)) = false := by simp [a2]
      rw [e]
      clear e a1 a2
      go_enter Try.func25, Try.ntmps25
      go_wp2
      go_ret
      exact ⟨rfl, (Below.refl _ _).alloc (Nat.le_refl _) _⟩
  · have g1 : (o.i == s) = false := by simp [a1]
    have e : (decide (o.i = s) && decide (o.j = t)) = false := by simp [a1]
    rw [e]
    clear e a1
    go_enter Try.func25, Try.ntmps25
    go_wp2
    go_ret
    exact ⟨rfl, (Below.refl _ _).alloc (Nat.le_refl _) _⟩
theorem enU : ∀ (args : Array Value) (W : World), (callFunc 25 args).run Try.prog W = .ok (.enter 25 args) W := enters Try.func25 (by kernel_rfl) (by kernel_rfl)

set_option maxRecDepth 100000 in
set_option maxHeartbeats 2000000 in
theorem indexFunc (fn : FuncId) (p : Addr) (P : OpV → Bool) (a : Option Addr) (c : Nat) (os : List OpV) (w : World) (hr : RdO w a os) (hl : os.length ≤ 1048576)
    (HF : ∀ (args : Array Value) (W : World), (callFunc fn args).run Try.prog W = .ok (.enter fn args) W)
    (HK : ∀ o W, Below w.heap.size w W → Calls Try.prog fn #[.agg #[.int .i64 o.i, .int .i64 o.j, .int .i64 o.k, .int .i64 o.ts, .int .i64 o.ta, .int .i64 o.fs, .int .i64 o.fa, .int .i64 o.ns, .int .i64 o.na, .int .i64 o.v, .bool o.en, .string o.tx], .pointer (some p)] W fun e w' => e = .returned (.bool (P o)) ∧ Below W.heap.size W w') :
    Calls Try.prog 24 #[.slice a os.length c, .func (.func fn) #[] #[.pointer (some p)]] w fun e w' =>
      ((∃ k : Nat, e = .returned (.int .i64 k) ∧ k < os.length ∧ P (os.getD k zop) = true) ∨ (e = .returned (.int .i64 (-1)) ∧ ∀ m, m < os.length → P (os.getD m zop) = false)) ∧ Below w.heap.size w w' := by
  have HKK := Lib.hid HK
  clear HK
  rcases hr with rfl | ⟨b, off, rfl, hc⟩
  · go_enter Try.func24, Try.ntmps24
    go_wp2
    go_rounds 1
    go_ret
    exact ⟨.inr ⟨rfl, fun m hm => by cases hm⟩, Below.refl _ _⟩
  · have HC := Lib.hid hc
    clear hc
    go_enter Try.func24, Try.ntmps24
    go_wp2
    go_loopw [8] (fun i wr => ∃ k : Nat, k ≤ os.length ∧ i = .int .i64 k ∧ Hid (∀ m, m < k → P (os.getD m zop) = false) ∧ Below w.heap.size w wr) (fun i _ => os.length - (intOf i).toNat)
    case atStart => exact ⟨0, Nat.zero_le _, rfl, fun m hm => absurd hm (by omega), Below.refl _ _⟩
    case round =>
      obtain ⟨k, hk, rfl, hall, hnx⟩ := hrel
      by_cases hlt : k < os.length
      · obtain ⟨o, ho⟩ : ∃ o, o = os.getD k zop := ⟨_, rfl⟩
        have HR := Lib.hid (by rw [ho]; exact rangeAt_below (HC.out k hlt) hnx (rangeAt_lt (HC.out k hlt)) : wr.rangeAt b (off + k * 12) (opL o))
        have HCal := Lib.hid (HKK.out o wr hnx)
        obtain ⟨q, hq⟩ : ∃ q, P o = q := ⟨_, rfl⟩
        rw [hq] at HCal
        have HQ := Lib.hid (by rw [← ho]; exact hq : P (os.getD k zop) = q)
        clear ho hq
        have hk0 : (0 : Int) ≤ (k : Int) := Int.natCast_nonneg _
        have hk1 : (k : Int) < (os.length : Int) := by omega
        have hn := HF
        cases q
        · go_wp2_with (refine loadI rfl _ rfl rfl HR.out ?_)
          refine HCal.out.mono ?_
          rintro e w1 ⟨rfl, hb1⟩
          go_wp2
          go_roundw
          case rel => exact ⟨k + 1, by omega, by go_num, (fun m hm => by rcases (show m < k ∨ m = k by omega) with h | rfl; exact hall.out m h; exact HQ.out : ∀ m, m < k + 1 → P (os.getD m zop) = false), hnx.trans (hb1.mono hnx.size)⟩
          case measure => simp [intOf]; omega
        · go_wp2_with (refine loadI rfl _ rfl rfl HR.out ?_)
          refine HCal.out.mono ?_
          rintro e w1 ⟨rfl, hb1⟩
          go_wp2
          go_ret
          exact ⟨.inl ⟨k, rfl, hlt, HQ.out⟩, hnx.trans (hb1.mono hnx.size)⟩
      · obtain rfl : k = os.length := by omega
        go_wp2
        go_ret
        exact ⟨.inr ⟨rfl, hall.out⟩, hnx⟩

/-- There is something to be undone: a valid log has the operation, and it is no undo. -/
def muOk (os : List OpV) (s t : Int) : Bool := vlog os && os.any (fun o => (decide (o.i = s) && decide (o.j = t)) && !decide (o.k = 10))
/-- The operation that undoes it. -/
def muOp (os : List OpV) (s t : Int) (en : Bool) : OpV := if muOk os s t then ⟨nSeq (lvec os) t, nWho (lvec os) t, 10, s, t, 0, 0, 0, 0, 0, en, ByteArray.empty⟩ else zop
def muT (os : List OpV) (s t : Int) : Bool := muOk os s t && nOk (lvec os) t
theorem mu_bad {os : List OpV} {s t : Int} (h : vlog os = false) : muOk os s t = false := by rw [muOk, h]; rfl
theorem mu_none {os : List OpV} {s t : Int} (h : ∀ m, m < os.length → (decide ((os.getD m zop).i = s) && decide ((os.getD m zop).j = t)) = false) : muOk os s t = false := by
  rw [muOk, Bool.and_eq_false_iff]
  refine .inr ?_
  rw [List.any_eq_false]
  intro o ho
  obtain ⟨m, hm, e⟩ := mem_getD ho
  have := h m hm
  rw [e] at this
  rw [this]
  simp
theorem mu_undo {os : List OpV} {s t : Int} {k : Nat} (hv : vlog os = true) (hk : k < os.length) (h : (decide ((os.getD k zop).i = s) && decide ((os.getD k zop).j = t)) = true) (h10 : (os.getD k zop).k = 10) : muOk os s t = false := by
  rw [muOk, Bool.and_eq_false_iff]
  refine .inr ?_
  rw [List.any_eq_false]
  intro o ho he
  simp only [Bool.and_eq_true, decide_eq_true_eq, Bool.not_eq_true', decide_eq_false_iff_not] at he h
  have := srt_once ((vlog_iff os).1 hv).2.2 ho (getD_mem hk) ⟨he.1.1.trans h.1.symm, he.1.2.trans h.2.symm⟩
  rw [this] at he
  exact he.2 h10
theorem mu_yes {os : List OpV} {s t : Int} {k : Nat} (hv : vlog os = true) (hk : k < os.length) (h : (decide ((os.getD k zop).i = s) && decide ((os.getD k zop).j = t)) = true) (h10 : ¬ (os.getD k zop).k = 10) : muOk os s t = true := by
  rw [muOk, hv, Bool.true_and, List.any_eq_true]
  exact ⟨os.getD k zop, getD_mem hk, by rw [h, decide_eq_false h10]; rfl⟩
/-- The program's and the model's tests of the new stamp. -/
theorem mu_law {os : List OpV} {s t : Int} (en : Bool) (h : muOk os s t = true) :
    vop ⟨nSeq (lvec os) t, nWho (lvec os) t, 10, s, t, 0, 0, 0, 0, 0, en, ByteArray.empty⟩ = nOk (lvec os) t ∧ (!(zst (nSeq (lvec os) t) (nWho (lvec os) t))) = nOk (lvec os) t := by
  rw [muOk, Bool.and_eq_true, List.any_eq_true] at h
  obtain ⟨hv, o, ho, he⟩ := h
  simp only [Bool.and_eq_true, decide_eq_true_eq, Bool.not_eq_true', decide_eq_false_iff_not] at he
  obtain ⟨⟨rfl, rfl⟩, _⟩ := he
  cases e : nOk (lvec os) o.j
  · obtain ⟨e1, e2⟩ := next_no e
    rw [e1, e2]
    refine ⟨?_, by decide⟩
    unfold vop
    have : vst 0 0 = false := by decide
    show (vst 0 0 && _) = false
    rw [this]; rfl
  · obtain ⟨h1, h2, h3, h4, h5⟩ := next_law e
    have hc : vcon (lvec os) o.i o.j = true := by
      rw [vcon_vv (lvec_vv hv)]
      refine ⟨(vst_iff _ _).2 (vst_get hv ho), ?_⟩
      have := lvec_con hv ho
      unfold con at this
      rwa [decide_eq_true_eq] at this
    have hs := h5 _ _ hc
    have hst : vst o.i o.j = true := (vst_iff _ _).2 (vst_get hv ho)
    have hz : zst o.i o.j = false := by
      have := ((vst_iff _ _).1 hst).1.1
      unfold zst
      have : decide (o.i = 0) = false := by rw [decide_eq_false_iff_not]; omega
      rw [this]; rfl
    refine ⟨?_, ?_⟩
    · have e1 : vref (nSeq (lvec os) o.j) (nWho (lvec os) o.j) o.i o.j false = true := by
        unfold vref
        rw [hz, if_neg Bool.false_ne_true, hst, hs]
        rfl
      have e2 : bareB ByteArray.empty = true := by
        unfold bareB
        rw [ByteArray.toList_eq]
        rfl
      unfold vop opKindOk
      show (vst (nSeq (lvec os) o.j) (nWho (lvec os) o.j) && (vref (nSeq (lvec os) o.j) (nWho (lvec os) o.j) o.i o.j false && (zst 0 0 && (zst 0 0 && ((0 : Int) == 0 && bareB ByteArray.empty))))) = true
      rw [h3, e1, e2]
      rfl
    · unfold zst
      have : decide (nSeq (lvec os) o.j = 0) = false := by rw [decide_eq_false_iff_not]; exact h1
      rw [this]; rfl

end Go.Proofs.Ytdiifcgalehhbaa.MuA
