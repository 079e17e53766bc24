/-
  activeOps and ActiveOps of the model: contracts. For slices that read as a list of at most 2^20 operations.
-/
import Derived.Test.YtlogpbejfifgdaaLiB
import Derived.Outline
namespace Go.Proofs.Ytlogpbejfifgdaa.LiC
open Go.RowKit Go.Proofs.Ytlogpbejfifgdaa.Base Go.Proofs.Ytlogpbejfifgdaa.St Go.Proofs.Ytlogpbejfifgdaa.StB Go.Proofs.Ytlogpbejfifgdaa.OpA Go.Proofs.Ytlogpbejfifgdaa.OpB Go.Proofs.Ytlogpbejfifgdaa.LgA Go.Proofs.Ytlogpbejfifgdaa.LgB Go.Proofs.Ytlogpbejfifgdaa.LgC Go.Proofs.Ytlogpbejfifgdaa.LgF Go.Proofs.Ytlogpbejfifgdaa.LgH Go.Proofs.Ytlogpbejfifgdaa.LgI Go.Proofs.Ytlogpbejfifgdaa.LgP Go.Proofs.Ytlogpbejfifgdaa.LiA Go.Proofs.Ytlogpbejfifgdaa.LiB
set_option linter.unusedVariables false
attribute [local go_sem ↓] Go.wp_at_zero Go.wp_at_succ
attribute [local irreducible] Go.wpQuiet

/-- The slice value v is of the call's own (from block lo on) and holds the bools bs. -/
def OwnsB (w : World) (lo : Nat) (v : Value) (bs : List Bool) : Prop := w.ownsRow lo 4 1 v bs.length (bs.map Value.bool)
theorem ownsB_empty (w : World) (lo : Nat) (hl : lo ≤ w.heap.size) : OwnsB (w.alloc (.cells #[] 4)) lo (.slice (some ⟨w.heap.size, 0, none⟩) 0 0) [] :=
  ⟨rfl, .inr ⟨w.heap.size, 0, #[], rfl, hl, heap_alloc_new _ _, Nat.le_refl _, Nat.zero_le _, rfl, rfl⟩⟩
theorem OwnsB.below {w w' : World} {lo : Nat} {v : Value} {bs : List Bool} (h : OwnsB w lo v bs) (hb : Below w.heap.size w w') : OwnsB w' lo v bs := by
  unfold OwnsB at h ⊢
  exact h.kept (row := none) ⟨hb.os, hb.tape, hb.output, hb.size, fun k hk _ => hb.block k hk⟩ (by cases v.ownBlock <;> simp)
theorem ownedB {base : Nat} {w : World} {v : Value} {bs : List Bool} (h : OwnsB w base v bs) :
    ∃ a c, v = .slice a bs.length c ∧ RowBo base w a c bs.length (fun i => bs.getD i false) := by
  rcases h.2 with ⟨rfl, h0⟩ | ⟨g, cap, cur, rfl, hb, hh, hn, hm, hs, ht⟩
  · exact ⟨none, 0, by rw [h0], .inl ⟨rfl, h0⟩⟩
  · refine ⟨_, _, rfl, .inr ⟨g, rfl, hb, fun i => cur.getD i undef, ⟨cur, hh, by omega, fun i hi => ?_⟩, hn, fun k hk => ?_⟩⟩
    · show cur[i]? = some (cur.getD i undef)
      rw [Array.getD_eq_getD_getElem?, Array.getElem?_eq_getElem (by omega)]; rfl
    · have e : (cur.toList.take (bs.length * 1))[k]? = (bs.map Value.bool)[k]? := by rw [ht]
      rw [List.getElem?_take_of_lt (by omega), Array.getElem?_toList, List.getElem?_map, List.getElem?_eq_getElem hk] at e
      show cur.getD k undef = .bool (bs.getD k false)
      rw [Array.getD_eq_getD_getElem?, List.getD_eq_getElem?_getD, e, List.getElem?_eq_getElem hk]
      rfl
theorem OwnsB.gives {w w' : World} {v : Value} {bs : List Bool} (h : OwnsB w' w.heap.size v bs) (hb : Below w.heap.size w w') : GivesB w bs (.returned v) w' := by
  obtain ⟨a, c, rfl, hr⟩ := ownedB h
  exact ⟨a, c, rfl, hr, hb⟩
theorem newsB (w0 : World) (x : Bool) : ∀ j u, [Value.bool x][j]? = some u → (w0.alloc (.cells #[.bool x] 4)).cell? ((⟨w0.heap.size, 0, none⟩ : Addr).add j) = some u := by
  intro j u hu
  rw [Addr.add_mid, Nat.zero_add, World.cell?_alloc_at _ _ _ _ rfl]
  rw [← hu]
  show ([Value.bool x].toArray)[j]? = [Value.bool x][j]?
  simp
/-- append of one bool that lies in a new block. -/
theorem appendB {ops : Array Oper} {rest : List Oper} {op : Oper} {a : Act} {w0 : World} {Q : Exit → Act → World → Prop} (hgd : op.guard = none) (s x : Operand)
    (ho : op.op = .call { callee := .builtin .append, args := #[s, x], argTypes := #[39, 39] }) {lo : Nat} {v : Value} {bs : List Bool} {y : Bool} {c : Nat}
    (hs : a.eval s = v) (hx : a.eval x = .slice (some ⟨w0.heap.size, 0, none⟩) 1 c) (hown : OwnsB w0 lo v bs) (hlen : bs.length ≤ 1048576) (hlo : lo ≤ w0.heap.size)
    (k : ∀ v' w', OwnsB w' lo v' (bs ++ [y]) → Below lo w0 w' → lo ≤ w'.heap.size → wpList Try.prog ops Q rest (a.put op.dst v') w') :
    wpList Try.prog ops Q (op :: rest) a (w0.alloc (.cells #[.bool y] 4)) := by
  obtain ⟨i0, hi, hz0, hz1, hz2⟩ := info_parts info_bool
  refine wpList_append_own _ hgd s x 39 ho lo 4 i0 _ 1 1 Try.underlying39 hi hz0 hz1 hz2 rfl (by omega) v bs.length (bs.map Value.bool) hs (World.ownsRow.alloc hown _) ⟨w0.heap.size, 0, none⟩ 1 c [Value.bool y] hx rfl (newsB w0 y) ?_ ?_ ?_ ?_ ?_
  · intro u hu
    rw [List.mem_singleton] at hu
    subst hu
    rfl
  · unfold maxLen; omega
  · omega
  · simp; omega
  · intro v' w' h1 h2 _
    refine k v' w' ?_ ((((Below.refl lo w0).alloc hlo _)).grown h2 (by simp; omega) (fun k hk => ?_)) (Nat.le_trans hlo (Nat.le_trans (by simp) h2.size))
    · unfold OwnsB
      rw [List.length_append, List.map_append]
      exact h1
    · exact (World.ownsRow.lt (show w0.ownsRow lo 4 1 v bs.length (bs.map Value.bool) from hown) k hk).1

theorem liv_step (os : List OpV) {k t : Nat} (h : k + 1 ≤ t) : liv os k (t + 1 - (k + 1)) = if und (os.getD k zop) (os.getD t zop) then (os.getD t zop).en else liv os k (t - (k + 1)) := by
  obtain ⟨m, rfl⟩ : ∃ m, t = k + 1 + m := ⟨t - (k + 1), by omega⟩
  rw [show k + 1 + m + 1 - (k + 1) = m + 1 by omega, liv, show k + 1 + m - (k + 1) = m by omega]
/-- What the model has found for the first k operations. -/
def acts (os : List OpV) (k : Nat) : List Bool := (List.range k).map fun i => liv os i (os.length - (i + 1))
theorem acts_succ (os : List OpV) (k : Nat) : acts os (k + 1) = acts os k ++ [liv os k (os.length - (k + 1))] := by simp [acts, List.range_succ]
theorem acts_len (os : List OpV) (k : Nat) : (acts os k).length = k := by simp [acts]

set_option maxRecDepth 100000 in
set_option maxHeartbeats 4000000 in
theorem spec_activeOps (a : Option Addr) (c : Nat) (os : List OpV) (w : World) (hr : RdO w a os) (hl : os.length ≤ 1048576) :
    Calls Try.prog 69 #[.slice a os.length c] w (GivesB w (actv os)) := by
  have HE := Lib.hid (ownsB_empty w w.heap.size (Nat.le_refl _))
  rcases hr with rfl | ⟨b, off, rfl, hc⟩
  · go_enter Try.func69, Try.ntmps69
    go_wp2
    go_rounds 1
    go_ret
    exact HE.out.gives ((Below.refl _ _).alloc (Nat.le_refl _) _)
  · have HC := Lib.hid hc
    clear hc
    go_enter Try.func69, Try.ntmps69
    go_wp2
    go_loopw [3, 4] (fun s i wr => ∃ k : Nat, k ≤ os.length ∧ i = .int .i64 k ∧ OwnsB wr w.heap.size s (acts os k) ∧ Below w.heap.size w wr) (fun _ i _ => os.length - (intOf i).toNat)
    case atStart => exact ⟨0, Nat.zero_le _, rfl, HE.out, (Below.refl _ _).alloc (Nat.le_refl _) _⟩
    case round =>
      obtain ⟨k, hk, rfl, hown, hnx⟩ := hrel
      by_cases hlt : k < os.length
      · obtain ⟨o, ho⟩ : ∃ o, o = os.getD k zop := ⟨_, rfl⟩
        have HRO := Lib.hid (by rw [ho]; exact rangeAt_below (HC.out k hlt) hnx (rangeAt_lt (HC.out k hlt)) : wr.rangeAt b (off + k * 12) (opL o))
        have HSTEP := Lib.hid (fun t (h : k + 1 ≤ t) => liv_step os h)
        have HO := Lib.hid ho
        have HOWN := Lib.hid hown
        have HL0 := Lib.hid (show true = liv os k (k + 1 - (k + 1)) by rw [Nat.sub_self]; rfl)
        obtain ⟨W0, hW0⟩ : ∃ W0, W0 = wr := ⟨_, rfl⟩
        subst hW0
        clear ho hown
        have hk0 : (0 : Int) ≤ (k : Int) := Int.natCast_nonneg _
        have hk1 : (k : Int) < (os.length : Int) := by omega
        go_wp2
        go_loopw [5, 6] (fun live i wr => ∃ t : Nat, k + 1 ≤ t ∧ t ≤ os.length ∧ live = .bool (liv os k (t - (k + 1))) ∧ i = .int .i64 t ∧ Below W0.heap.size W0 wr) (fun _ i _ => os.length - (intOf i).toNat)
        case atStart => exact ⟨k + 1, Nat.le_refl _, hlt, congrArg Value.bool HL0.out, by go_num, Below.refl _ _⟩
        case round =>
          obtain ⟨t, ht1, ht2, rfl, rfl, hnx2⟩ := hrel
          by_cases hlt2 : t < os.length
          · obtain ⟨p, hp⟩ : ∃ p, p = os.getD t zop := ⟨_, rfl⟩
            have HRP := Lib.hid (by rw [hp]; exact rangeAt_below (HC.out t hlt2) (hnx.trans (hnx2.mono hnx.size)) (rangeAt_lt (HC.out t hlt2)) : wr.rangeAt b (off + t * 12) (opL p))
            have HR := Lib.hid (rangeAt_below HRO.out hnx2 (rangeAt_lt HRO.out))
            have hst := HSTEP.out t ht1
            rw [← HO.out, ← hp] at hst
            obtain ⟨lv, hlv⟩ : ∃ lv, liv os k (t - (k + 1)) = lv := ⟨_, rfl⟩
            rw [hlv] at hst ⊢
            clear hp hlv
            have ht0 : (0 : Int) ≤ (t : Int) := Int.natCast_nonneg _
            have ht3 : (t : Int) < (os.length : Int) := by omega
            rcases (show (¬ p.k = 10) ∨ (p.k = 10 ∧ ¬ p.ts = o.i) ∨ (p.k = 10 ∧ p.ts = o.i ∧ ¬ p.ta = o.j) ∨ (p.k = 10 ∧ p.ts = o.i ∧ p.ta = o.j ∧ ¬ p.j = o.j) ∨ (p.k = 10 ∧ p.ts = o.i ∧ p.ta = o.j ∧ p.j = o.j ∧ o.k = 10) ∨ (p.k = 10 ∧ p.ts = o.i ∧ p.ta = o.j ∧ p.j = o.j ∧ ¬ o.k = 10) from by omega) with e0 | ⟨e0, e1⟩ | ⟨e0, e1, e2⟩ | ⟨e0, e1, e2, e3⟩ | ⟨e0, e1, e2, e3, e4⟩ | ⟨e0, e1, e2, e3, e4⟩
            · have hu : und o p = false := by
                unfold und
                simp [e0]
              rw [hu] at hst
              have HST := Lib.hid hst
              have g0 : (p.k == 10) = false := by simp [e0]
              clear hst hu e0
              go_wp2
              refine region_lit (C := fun W => Below wr.heap.size wr W) (by kernel_rfl) (by kernel_rfl) (Below.refl _ _).drew ?_
              repeat (
                first
                  | (refine wpQuiet_step (fun K hK => ?_)
                     go_simp
                     first
                       | (refine hK _ ?_; clear hK K)
                       | (apply Exists.intro
                          refine ⟨fun W hW => ?_, hK _ ?_⟩
                          · obtain ⟨x0, x1, x2, x3, x4, x5, x6, x7, x8, x9, x10, x11⟩ := c12 (rangeAt_below HR.out hW (rangeAt_lt HR.out))
                            obtain ⟨q0, q1, q2, q3, q4, q5, q6, q7, q8, q9, q10, q11⟩ := c12 (rangeAt_below HRP.out hW (rangeAt_lt HRP.out))
                            first
                              | (go_simp; exact rfl)
                              | (go_simp; exact ⟨rfl, rfl⟩)
                          clear hK K)))
              refine wpQuiet_nil ?_
              intro W1 hW1
              go_wp2
              go_roundw
              case rel => exact ⟨t + 1, by omega, by omega, congrArg Value.bool HST.out.symm, by go_num, hnx2.trans (hW1.mono hnx2.size)⟩
              case measure => simp [intOf]; omega
            · have hu : und o p = false := by
                unfold und
                simp [e0, e1]
              rw [hu] at hst
              have HST := Lib.hid hst
              have g0 : (p.k == 10) = true := by simp [e0]
              have g1 : (p.ts == o.i) = false := by simp [e1]
              clear hst hu e0 e1
              go_wp2
              refine region_lit (C := fun W => Below wr.heap.size wr W) (by kernel_rfl) (by kernel_rfl) (Below.refl _ _).drew ?_
              repeat (
                first
                  | (refine wpQuiet_step (fun K hK => ?_)
                     go_simp
                     first
                       | (refine hK _ ?_; clear hK K)
                       | (apply Exists.intro
                          refine ⟨fun W hW => ?_, hK _ ?_⟩
                          · obtain ⟨x0, x1, x2, x3, x4, x5, x6, x7, x8, x9, x10, x11⟩ := c12 (rangeAt_below HR.out hW (rangeAt_lt HR.out))
                            obtain ⟨q0, q1, q2, q3, q4, q5, q6, q7, q8, q9, q10, q11⟩ := c12 (rangeAt_below HRP.out hW (rangeAt_lt HRP.out))
                            first
                              | (go_simp; exact rfl)
                              | (go_simp; exact ⟨rfl, rfl⟩)
                          clear hK K)))
              refine wpQuiet_nil ?_
              intro W1 hW1
              go_wp2
              go_roundw
              case rel => exact ⟨t + 1, by omega, by omega, congrArg Value.bool HST.out.symm, by go_num, hnx2.trans (hW1.mono hnx2.size)⟩
              case measure => simp [intOf]; omega
            · have hu : und o p = false := by
                unfold und
                simp [e0, e1, e2]
              rw [hu] at hst
              have HST := Lib.hid hst
              have g0 : (p.k == 10) = true := by simp [e0]
              have g1 : (p.ts == o.i) = true := by simp [e1]
              have g2 : (p.ta == o.j) = false := by simp [e2]
              clear hst hu e0 e1 e2
              go_wp2
              refine region_lit (C := fun W => Below wr.heap.size wr W) (by kernel_rfl) (by kernel_rfl) (Below.refl _ _).drew ?_
              repeat (
                first
                  | (refine wpQuiet_step (fun K hK => ?_)
                     go_simp
                     first
                       | (refine hK _ ?_; clear hK K)
                       | (apply Exists.intro
                          refine ⟨fun W hW => ?_, hK _ ?_⟩
                          · obtain ⟨x0, x1, x2, x3, x4, x5, x6, x7, x8, x9, x10, x11⟩ := c12 (rangeAt_below HR.out hW (rangeAt_lt HR.out))
                            obtain ⟨q0, q1, q2, q3, q4, q5, q6, q7, q8, q9, q10, q11⟩ := c12 (rangeAt_below HRP.out hW (rangeAt_lt HRP.out))
                            first
                              | (go_simp; exact rfl)
                              | (go_simp; exact ⟨rfl, rfl⟩)
                          clear hK K)))
              refine wpQuiet_nil ?_
              intro W1 hW1
              go_wp2
              go_roundw
              case rel => exact ⟨t + 1, by omega, by omega, congrArg Value.bool HST.out.symm, by go_num, hnx2.trans (hW1.mono hnx2.size)⟩
              case measure => simp [intOf]; omega
            · have hu : und o p = false := by
                unfold und
                simp [e0, e1, e2, e3]
              rw [hu] at hst
              have HST := Lib.hid hst
              have g0 : (p.k == 10) = true := by simp [e0]
              have g1 : (p.ts == o.i) = true := by simp [e1]
              have g2 : (p.ta == o.j) = true := by simp [e2]
              have g3 : (p.j == o.j) = false := by simp [e3]
              clear hst hu e0 e1 e2 e3
              go_wp2
              refine region_lit (C := fun W => Below wr.heap.size wr W) (by kernel_rfl) (by kernel_rfl) (Below.refl _ _).drew ?_
              repeat (
                first
                  | (refine wpQuiet_step (fun K hK => ?_)
                     go_simp
                     first
                       | (refine hK _ ?_; clear hK K)
                       | (apply Exists.intro
                          refine ⟨fun W hW => ?_, hK _ ?_⟩
                          · obtain ⟨x0, x1, x2, x3, x4, x5, x6, x7, x8, x9, x10, x11⟩ := c12 (rangeAt_below HR.out hW (rangeAt_lt HR.out))
                            obtain ⟨q0, q1, q2, q3, q4, q5, q6, q7, q8, q9, q10, q11⟩ := c12 (rangeAt_below HRP.out hW (rangeAt_lt HRP.out))
                            first
                              | (go_simp; exact rfl)
                              | (go_simp; exact ⟨rfl, rfl⟩)
                          clear hK K)))
              refine wpQuiet_nil ?_
              intro W1 hW1
              go_wp2
              go_roundw
              case rel => exact ⟨t + 1, by omega, by omega, congrArg Value.bool HST.out.symm, by go_num, hnx2.trans (hW1.mono hnx2.size)⟩
              case measure => simp [intOf]; omega
            · have hu : und o p = false := by
                unfold und
                simp [e0, e1, e2, e3, e4]
              rw [hu] at hst
              have HST := Lib.hid hst
              have g0 : (p.k == 10) = true := by simp [e0]
              have g1 : (p.ts == o.i) = true := by simp [e1]
              have g2 : (p.ta == o.j) = true := by simp [e2]
              have g3 : (p.j == o.j) = true := by simp [e3]
              have g4 : (o.k == 10) = true := by simp [e4]
              clear hst hu e0 e1 e2 e3 e4
              go_wp2
              refine region_lit (C := fun W => Below wr.heap.size wr W) (by kernel_rfl) (by kernel_rfl) (Below.refl _ _).drew ?_
              repeat (
                first
                  | (refine wpQuiet_step (fun K hK => ?_)
                     go_simp
                     first
                       | (refine hK _ ?_; clear hK K)
                       | (apply Exists.intro
                          refine ⟨fun W hW => ?_, hK _ ?_⟩
                          · obtain ⟨x0, x1, x2, x3, x4, x5, x6, x7, x8, x9, x10, x11⟩ := c12 (rangeAt_below HR.out hW (rangeAt_lt HR.out))
                            obtain ⟨q0, q1, q2, q3, q4, q5, q6, q7, q8, q9, q10, q11⟩ := c12 (rangeAt_below HRP.out hW (rangeAt_lt HRP.out))
                            first
                              | (go_simp; exact rfl)
                              | (go_simp; exact ⟨rfl, rfl⟩)
                          clear hK K)))
              refine wpQuiet_nil ?_
              intro W1 hW1
              go_wp2
              go_roundw
              case rel => exact ⟨t + 1, by omega, by omega, congrArg Value.bool HST.out.symm, by go_num, hnx2.trans (hW1.mono hnx2.size)⟩
              case measure => simp [intOf]; omega
            · have hu : und o p = true := by
                unfold und
                simp [e0, e1, e2, e3, e4]
              rw [hu] at hst
              have HST := Lib.hid hst
              have g0 : (p.k == 10) = true := by simp [e0]
              have g1 : (p.ts == o.i) = true := by simp [e1]
              have g2 : (p.ta == o.j) = true := by simp [e2]
              have g3 : (p.j == o.j) = true := by simp [e3]
              have g4 : (o.k == 10) = false := by simp [e4]
              clear hst hu e0 e1 e2 e3 e4
              go_wp2
              refine region_lit (C := fun W => Below wr.heap.size wr W) (by kernel_rfl) (by kernel_rfl) (Below.refl _ _).drew ?_
              repeat (
                first
                  | (refine wpQuiet_step (fun K hK => ?_)
                     go_simp
                     first
                       | (refine hK _ ?_; clear hK K)
                       | (apply Exists.intro
                          refine ⟨fun W hW => ?_, hK _ ?_⟩
                          · obtain ⟨x0, x1, x2, x3, x4, x5, x6, x7, x8, x9, x10, x11⟩ := c12 (rangeAt_below HR.out hW (rangeAt_lt HR.out))
                            obtain ⟨q0, q1, q2, q3, q4, q5, q6, q7, q8, q9, q10, q11⟩ := c12 (rangeAt_below HRP.out hW (rangeAt_lt HRP.out))
                            first
                              | (go_simp; exact rfl)
                              | (go_simp; exact ⟨rfl, rfl⟩)
                          clear hK K)))
              refine wpQuiet_nil ?_
              intro W1 hW1
              obtain ⟨q0, q1, q2, q3, q4, q5, q6, q7, q8, q9, q10, q11⟩ := c12 (rangeAt_below HRP.out hW1 (rangeAt_lt HRP.out))
              go_wp2
              go_roundw
              case rel => exact ⟨t + 1, by omega, by omega, congrArg Value.bool HST.out.symm, by go_num, hnx2.trans (hW1.mono hnx2.size)⟩
              case measure => simp [intOf]; omega
          · obtain rfl : t = os.length := by omega
            have HF := Lib.hid (HOWN.out.below hnx2)
            have hB := hnx.trans (hnx2.mono hnx.size)
            have hsz := hB.size
            have HAS := Lib.hid (acts_succ os k)
            have hal := acts_len os k
            clear hnx hnx2
            go_wp2_with (with_reducible refine appendB rfl _ _ rfl rfl rfl HF.out (by omega) hsz ?_; intro v1 w2 hown2 hb2 hz2)
            go_roundw
            case rel => exact ⟨k + 1, by omega, by go_num, by rw [HAS.out]; exact hown2, hB.trans hb2⟩
            case measure => simp [intOf]; omega
      · obtain rfl : k = os.length := by omega
        go_wp2
        go_ret
        exact hown.gives hnx

end Go.Proofs.Ytlogpbejfifgdaa.LiC
