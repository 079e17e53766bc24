/-
  union of the program's ordered sets of operations: its contract. For slices that read as lists of at most 40 operations.
-/
import Derived.Test.YtlogpbejfifgdaaGreatLhB
import Derived.Test.YtlogpbejfifgdaaGreatK2
import Derived.Laws.EntriesVeiled
import Derived.Outline
namespace Go.Proofs.YtlogpbejfifgdaaGreat.LhC
open Go.RowKit Go.Proofs.YtlogpbejfifgdaaGreat.Base Go.Proofs.YtlogpbejfifgdaaGreat.St Go.Proofs.YtlogpbejfifgdaaGreat.StB Go.Proofs.YtlogpbejfifgdaaGreat.OpA Go.Proofs.YtlogpbejfifgdaaGreat.OpB Go.Proofs.YtlogpbejfifgdaaGreat.LgA Go.Proofs.YtlogpbejfifgdaaGreat.LgB Go.Proofs.YtlogpbejfifgdaaGreat.LgC Go.Proofs.YtlogpbejfifgdaaGreat.LgF Go.Proofs.YtlogpbejfifgdaaGreat.LgG Go.Proofs.YtlogpbejfifgdaaGreat.LgI Go.Proofs.YtlogpbejfifgdaaGreat.LgP Go.Proofs.YtlogpbejfifgdaaGreat.LgQ Go.Proofs.YtlogpbejfifgdaaGreat.LgR Go.Proofs.YtlogpbejfifgdaaGreat.LgT Go.Proofs.YtlogpbejfifgdaaGreat.LgZ Go.Proofs.YtlogpbejfifgdaaGreat.LhA Go.Proofs.YtlogpbejfifgdaaGreat.LhB
set_option linter.unusedVariables false
attribute [local go_sem ↓] Go.wp_at_zero Go.wp_at_succ
attribute [local irreducible] Go.wpQuiet

/-- A whole operation is read in a drawn region that only reads, under a guard that has been met. -/
theorem quietG {ops : Array Oper} {rest : List Oper} {op : Oper} {a : Act} {C : World → Prop} {Q : Act → Prop} (hw : Region.wanted op (yielded ops a.tmps) = true) (x : Operand) (ho : op.op = .load 39 x) {b o : Nat} {y : OpV}
    (hx : a.eval x = .pointer (some ⟨b, o, none⟩)) (h : ∀ W, C W → W.rangeAt b o (opL y)) (k : wpQuiet Tryz.prog ops C Q rest (a.put op.dst (.agg #[.int .i64 y.i, .int .i64 y.j, .int .i64 y.k, .int .i64 y.ts, .int .i64 y.ta, .int .i64 y.fs, .int .i64 y.fa, .int .i64 y.ns, .int .i64 y.na, .int .i64 y.v, .bool y.en, .string y.tx]))) : wpQuiet Tryz.prog ops C Q (op :: rest) a :=
  wpQuiet_step fun K hK => by
    rw [if_pos hw]
    exact ⟨_, fun W hW => by
    have hr := run_loadVar_mid (P := Tryz.prog) W b o 39 (opL y) _ (h W hW) Tryz.underlying39 rfl size_iop
    unfold Oper.quietAt execOp
    simp only [ho, hx, Instr.loadAt, Instr.sureAddr, Sem.run_bind, Sem.run_pure, Result.andThen_ok, hr]
    exact ⟨rfl, rfl⟩, hK _ k⟩

/-- append of one operation that lies in a new block; which blocks may have been written. -/
theorem appendO2 {ops : Array Oper} {rest : List Oper} {op : Oper} {a : Act} {w0 : World} {Q : Exit → Act → World → Prop} (hgd : op.guard = none) (s x : Operand)
    (ho : op.op = .call { callee := .builtin .append, args := #[s, x], argTypes := #[23, 23] }) {lo : Nat} {v : Value} {os : List OpV} {o : OpV} {c : Nat}
    (hs : a.eval s = v) (hx : a.eval x = .slice (some ⟨w0.heap.size, 0, none⟩) 1 c) (hown : OwnsO w0 lo v os) (hlen : os.length ≤ 1048576) (hlo : lo ≤ w0.heap.size)
    (k : ∀ v' w', OwnsO w' lo v' (os ++ [o]) → Below lo w0 w' → w0.grownBy w' v.ownBlock → (v'.ownBlock = v.ownBlock ∨ v'.ownBlock = some (w0.heap.size + 1)) → wpList Tryz.prog ops Q rest (a.put op.dst v') w') :
    wpList Tryz.prog ops Q (op :: rest) a (w0.alloc (.cells #[.int .i64 o.i, .int .i64 o.j, .int .i64 o.k, .int .i64 o.ts, .int .i64 o.ta, .int .i64 o.fs, .int .i64 o.fa, .int .i64 o.ns, .int .i64 o.na, .int .i64 o.v, .bool o.en, .string o.tx] 39)) := by
  obtain ⟨i0, hi, hz0, hz1, hz2⟩ := info_parts info104
  refine wpList_append_own_at _ hgd s x 23 ho lo 39 i0 _ 12 104 Tryz.underlying23 hi hz0 hz1 hz2 rfl (by omega) v os.length (flat os) hs (World.ownsRow.alloc hown _) ⟨w0.heap.size, 0, none⟩ 1 c (opL o) hx rfl (news w0 o) ?_ ?_ ?_ ?_ ?_
  · intro u hu
    exact flat_one' [o] u (by rw [flat_one]; exact hu)
  · unfold maxLen; omega
  · omega
  · simp; omega
  · intro v' w' h1 h2 _ h4
    refine k v' w' ?_ ((((Below.refl lo w0).alloc hlo _)).grown h2 (by simp; omega) (fun k hk => ?_)) ?_ (by simpa using h4)
    · unfold OwnsO
      rw [List.length_append, flat_append, flat_one]
      exact h1
    · exact (World.ownsRow.lt (show w0.ownsRow lo 39 12 v os.length (flat os) from hown) k hk).1
    · exact ⟨h2.os, h2.tape, h2.output, Nat.le_trans (by simp) h2.size, fun i hi hne => (h2.block i (by simp; omega) hne).trans (Below.heap_alloc _ _ _ hi)⟩

/-- The two sets' boxes at block n and behind it, and the answer's place. -/
def Fx2 (n : Nat) (S T : Value) (W : World) : Prop := n + 1 + 1 < W.heap.size ∧ W.cell? ⟨n, 0, none⟩ = some S ∧ W.cell? ⟨n, 1, none⟩ = some (.func (.func 51) #[] #[]) ∧ W.cell? ⟨n + 1, 0, none⟩ = some T ∧
  W.cell? ⟨n + 1 + 1, 0, none⟩ = some (.slice none 0 0) ∧ W.cell? ⟨n + 1 + 1, 1, none⟩ = some .nilFunc ∧ W.frozen? ⟨n + 1 + 1, 0, none⟩ = false ∧ W.frozen? ⟨n + 1 + 1, 1, none⟩ = false
theorem Fx2.next {n : Nat} {S T : Value} {W W' : World} (h : Fx2 n S T W) (hb : Below (n + 3) W W') : Fx2 n S T W' := by
  obtain ⟨h0, h1, h2, h3, h4, h5, h6, h7⟩ := h
  have := hb.size
  exact ⟨by omega, (hb.cell (by show n < _; omega)).trans h1, (hb.cell (by show n < _; omega)).trans h2, (hb.cell (by show n + 1 < _; omega)).trans h3, (hb.cell (by show n + 1 + 1 < _; omega)).trans h4, (hb.cell (by show n + 1 + 1 < _; omega)).trans h5,
    (hb.frozen (by show n + 1 + 1 < _; omega)).trans h6, (hb.frozen (by show n + 1 + 1 < _; omega)).trans h7⟩
theorem run_make_cap (n m : Nat) (hn : n ≤ 1048576) (hm : m ≤ 1048576) (w : World) :
    (Instr.makeSlice 23 (.int .i64 0) (.int .i64 ((n : Int) + (m : Int)))).run Tryz.prog w = .ok (.slice (some ⟨w.heap.size, 0, none⟩) 0 (n + m)) (w.alloc (.cells (madeCells #[.int .i64 0, .int .i64 0, .int .i64 0, .int .i64 0, .int .i64 0, .int .i64 0, .int .i64 0, .int .i64 0, .int .i64 0, .int .i64 0, .bool false, .string ByteArray.empty] ((n + m) * 12)) 39)) := by
  obtain ⟨i, hi, hz, hs, hb⟩ := info_parts info_iop
  have := run_make (P := Tryz.prog) w 23 39 i _ Tryz.underlying23 hi hz .i64 .i64 0 ((n : Int) + (m : Int)) (by omega) (by omega) (by rw [hb]; omega) (by omega)
  rw [hs] at this
  have e : ((n : Int) + (m : Int)).toNat = n + m := by omega
  rw [e] at this
  simpa [zop, Value.cells] using this
theorem scmp3 (q o : OpV) : (scmp q.i q.j o.i o.j < 0 ∧ lt q o = true) ∨ (scmp q.i q.j o.i o.j = 0 ∧ lt q o = false ∧ lt o q = false) ∨ (0 < scmp q.i q.j o.i o.j ∧ lt q o = false ∧ lt o q = true) := by
  unfold scmp lt slt cmpI
  by_cases h : q.i = o.i
  · rw [if_pos h]
    by_cases h1 : q.j < o.j
    · left; rw [if_pos h1]; simp [h, h1]
    · rw [if_neg h1]
      by_cases h2 : o.j < q.j
      · right; right; rw [if_pos h2]; simp [h, h2]; omega
      · right; left; rw [if_neg h2]; simp [h]; omega
  · rw [if_neg h]
    by_cases h1 : q.i < o.i
    · left; rw [if_pos h1]; simp [h1]
    · rw [if_neg h1, if_pos (by omega)]
      right; right
      simp
      omega
theorem uni_less {e x : OpV} {t r : List OpV} (h : lt x e = true) : uni (e :: t) (x :: r) = x :: uni (e :: t) r := by
  show mstep e (uni t) (x :: r) = x :: mstep e (uni t) r
  rw [mstep, if_pos h]
theorem uni_end {e : OpV} {t : List OpV} : uni (e :: t) [] = e :: uni t [] := rfl
theorem uni_more {e x : OpV} {t r : List OpV} (h : lt x e = false) (h' : lt e x = true) : uni (e :: t) (x :: r) = e :: uni t (x :: r) := by
  show mstep e (uni t) (x :: r) = _
  rw [mstep, if_neg (by rw [h]; exact Bool.false_ne_true), if_pos h']
theorem uni_same {e x : OpV} {t r : List OpV} (h : lt x e = false) (h' : lt e x = false) : uni (e :: t) (x :: r) = uni t (x :: r) := by
  show mstep e (uni t) (x :: r) = _
  rw [mstep, if_neg (by rw [h]; exact Bool.false_ne_true), if_neg (by rw [h']; exact Bool.false_ne_true)]
theorem own_ne {w : World} {lo : Nat} {v : Value} {os : List OpV} (h : OwnsO w lo v os) {n : Nat} (hn : w.heap.size ≤ n) : v.ownBlock ≠ some n := fun e => by
  have := (World.ownsRow.lt (show w.ownsRow lo 39 12 v os.length (flat os) from h) n e).2
  omega

set_option maxRecDepth 1000000 in
set_option maxHeartbeats 8000000 in
theorem union (A B : Option Addr) (c d : Nat) (os ps : List OpV) (w : World) (hr : RdO w A os) (hs : RdO w B ps) (hl : os.length ≤ 40) (hl' : ps.length ≤ 40) (hc : os.length ≤ c) :
    Calls Tryz.prog 39 #[.agg #[.slice A os.length c, .func (.func 51) #[] #[]], .agg #[.slice B ps.length d, .func (.func 51) #[] #[]]] w fun e w' =>
      ∃ v, e = .returned (.agg #[v, .func (.func 51) #[] #[]]) ∧ OwnsO w' w.heap.size v (uni ps os) ∧ Below w.heap.size w w' := by
  have HA := Lib.hid hr
  have HB := Lib.hid hs
  have hmk := run_make_cap os.length ps.length (by omega) (by omega)
  clear hr hs
  go_enter Tryz.func39, Tryz.ntmps39
  go_wp2
  clear hmk
  have hown0 : OwnsO ((((w.alloc (.cells #[.slice A os.length c, .func (.func 51) #[] #[]] 52)).alloc (.cells #[.slice B ps.length d, .func (.func 51) #[] #[]] 52)).alloc (.cells #[.slice none 0 0, .nilFunc] 52)).alloc (.cells (madeCells #[.int .i64 0, .int .i64 0, .int .i64 0, .int .i64 0, .int .i64 0, .int .i64 0, .int .i64 0, .int .i64 0, .int .i64 0, .int .i64 0, .bool false, .string ByteArray.empty] ((os.length + ps.length) * 12)) 39)) (w.heap.size + 3) (.slice (some ⟨w.heap.size + 1 + 1 + 1, 0, none⟩) 0 (os.length + ps.length)) [] := by
    have h := World.ownsRow_made (base := w.heap.size + 3) (e := 39) (size := 12) (((w.alloc (.cells #[.slice A os.length c, .func (.func 51) #[] #[]] 52)).alloc (.cells #[.slice B ps.length d, .func (.func 51) #[] #[]] 52)).alloc (.cells #[.slice none 0 0, .nilFunc] 52)) (madeCells #[.int .i64 0, .int .i64 0, .int .i64 0, .int .i64 0, .int .i64 0, .int .i64 0, .int .i64 0, .int .i64 0, .int .i64 0, .int .i64 0, .bool false, .string ByteArray.empty] ((os.length + ps.length) * 12)) (os.length + ps.length) (by simp) (by unfold maxLen; omega) (size_madeCells _ _)
    have e3 : (((w.alloc (.cells #[.slice A os.length c, .func (.func 51) #[] #[]] 52)).alloc (.cells #[.slice B ps.length d, .func (.func 51) #[] #[]] 52)).alloc (.cells #[.slice none 0 0, .nilFunc] 52)).heap.size = w.heap.size + 1 + 1 + 1 := by simp
    rw [e3] at h
    exact h
  have HOW0 := Lib.hid hown0
  clear hown0
  go_loopw [5, 6, 20] (fun s m i wr => ∃ (j k : Nat) (acc : List OpV), j ≤ ps.length ∧ k ≤ os.length ∧ i = .int .i64 j ∧ m = .int .i64 k ∧ OwnsO wr (w.heap.size + 3) s acc ∧ Hid (acc ++ uni (ps.drop j) (os.drop k) = uni ps os) ∧ acc.length ≤ k + j ∧ Below w.heap.size w wr ∧ Fx2 w.heap.size (.slice A os.length c) (.slice B ps.length d) wr) (fun _ _ i _ => ps.length - (intOf i).toNat)
  case atStart =>
    refine ⟨0, 0, [], Nat.zero_le _, Nat.zero_le _, rfl, rfl, HOW0.out, rfl, Nat.zero_le _, ((((Below.refl _ _).alloc (Nat.le_refl _) _).alloc (by simp) _).alloc (by simp; omega) _).alloc (by simp; omega) _, ?_⟩
    simp [Fx2, go_sem]
  case round =>
    obtain ⟨wo, rfl⟩ : ∃ wo : World, wo = wr := ⟨_, rfl⟩
    obtain ⟨j, k, acc, hj, hk, rfl, rfl, hown, heq, hal, hnx, hfx⟩ := hrel
    have hzz := hfx.1
    by_cases hlt : j < ps.length
    · rcases HB.out with h0 | ⟨b, off, rfl, hcc⟩
      · rw [h0] at hlt
        cases hlt
      obtain ⟨e, he⟩ : ∃ e, e = ps.getD j zop := ⟨_, rfl⟩
      have HE := Lib.hid (by rw [he]; exact rangeAt_below (hcc j hlt) hnx (rangeAt_lt (hcc j hlt)) : wo.rangeAt b (off + j * 12) (opL e))
      have HPS := Lib.hid (show ps.drop j = e :: ps.drop (j + 1) by rw [he]; exact drop_cons ps j hlt)
      clear he hcc
      have HBX := Lib.hid (boxR wo e)
      have hBx : Below wo.heap.size wo (wo.alloc (.cells #[.int .i64 e.i, .int .i64 e.j, .int .i64 e.k, .int .i64 e.ts, .int .i64 e.ta, .int .i64 e.fs, .int .i64 e.fa, .int .i64 e.ns, .int .i64 e.na, .int .i64 e.v, .bool e.en, .string e.tx] 39)) := (Below.refl _ _).alloc (Nat.le_refl _) _
      have HOW := Lib.hid (OwnsO.below hown hBx)
      have HNE := Lib.hid (own_ne hown (Nat.le_refl _))
      have HNX := Lib.hid (hnx.trans (hBx.mono hnx.size))
      have HFX0 := Lib.hid (hfx.next (hBx.mono (by omega)))
      have HQ0 := Lib.hid heq
      have hk0 : (0 : Int) ≤ (k : Int) := Int.natCast_nonneg _
      clear hown hfx heq hBx hnx
      go_wp2_with (refine loadI rfl _ rfl rfl HE.out ?_)
      go_loopw [5, 6] (fun s m wi => ∃ (k : Nat) (acc : List OpV), k ≤ os.length ∧ m = .int .i64 k ∧ OwnsO wi (w.heap.size + 3) s acc ∧ Hid (acc ++ uni (ps.drop j) (os.drop k) = uni ps os) ∧ acc.length ≤ k + j ∧ Below w.heap.size w wi ∧ Fx2 w.heap.size (.slice A os.length c) (.slice (some ⟨b, off, none⟩) ps.length d) wi ∧ wi.rangeAt wo.heap.size 0 (opL e) ∧ s.ownBlock ≠ some wo.heap.size) (fun _ m _ => os.length - (intOf m).toNat)
      case atStart => exact ⟨k, acc, hk, rfl, HOW.out, HQ0.out, hal, HNX.out, HFX0.out, HBX.out, HNE.out⟩
      case round =>
        clear hk0 hal hk HOW HQ0 HNX HFX0 HNE
        obtain ⟨wi, rfl⟩ : ∃ wi : World, wi = wr := ⟨_, rfl⟩
        obtain ⟨k, acc, hk, rfl, hown, heq, hal, hnI, hfx, her, hne⟩ := hrel
        have HOWN := Lib.hid hown
        have HFX := Lib.hid hfx
        obtain ⟨hzn3, hp0, hp1, _, _, _, _, _⟩ := hfx
        have HP0 := Lib.hid hp0
        have HP1 := Lib.hid hp1
        have HER := Lib.hid her
        have hzn : w.heap.size < wi.heap.size := by omega
        have hsI : w.heap.size + 3 ≤ wi.heap.size := by omega
        have hk0 : (0 : Int) ≤ (k : Int) := Int.natCast_nonneg _
        have hbo : wo.heap.size < wi.heap.size := rangeAt_lt her
        clear hown hp0 hp1 her
        by_cases hkl : k < os.length
        · rcases HA.out with h0 | ⟨b2, off2, rfl, hcc⟩
          · rw [h0] at hkl
            cases hkl
          obtain ⟨q, hq⟩ : ∃ q, q = os.getD k zop := ⟨_, rfl⟩
          have HQR := Lib.hid (by rw [hq]; exact rangeAt_below (hcc k hkl) hnI (rangeAt_lt (hcc k hkl)) : wi.rangeAt b2 (off2 + k * 12) (opL q))
          have HOS := Lib.hid (show os.drop k = q :: os.drop (k + 1) by rw [hq]; exact drop_cons os k hkl)
          have hk1 : (k : Int) < (os.length : Int) := by omega
          have hcm := scmp3 q e
          have HCM := Lib.hid (fun w => compareOps q e w)
          generalize scmp q.i q.j e.i e.j = x at hcm HCM
          clear hq hcc
          have he := heq.out
          rw [HPS.out, HOS.out] at he
          clear heq
          rcases hcm with ⟨hx, hlx⟩ | ⟨hx, hlx, hly⟩ | ⟨hx, hlx, hly⟩
          · -- the item of the first set is smaller
            rw [uni_less hlx] at he
            have HEQ := Lib.hid (show (acc ++ [q]) ++ uni (ps.drop j) (os.drop (k + 1)) = uni ps os by rw [HPS.out]; simpa using he)
            clear he hlx
            go_wp2
            refine region_lit (C := fun W => Below wi.heap.size wi W) (by kernel_rfl) (by kernel_rfl) (Below.refl _ _).drew ?_
            repeat (
              first
                | (refine quietG (by go_simp) _ rfl rfl (fun W hW => rangeAt_below HQR.out hW (rangeAt_lt HQR.out)) ?_)
                | (refine quietG (by go_simp) _ rfl rfl (fun W hW => rangeAt_below HER.out hW (rangeAt_lt HER.out)) ?_)
                | (refine wpQuiet_step (fun K hK => ?_)
                   go_simp
                   first
                     | (refine hK _ ?_; clear hK K)
                     | (apply Exists.intro
                        refine ⟨fun W hW => ?_, hK _ ?_⟩
                        · have p0 := (hW.cell (p := ⟨w.heap.size, 0, none⟩) hzn).trans HP0.out
                          have p1 := (hW.cell (p := ⟨w.heap.size, 1, none⟩) hzn).trans HP1.out
                          first
                            | (go_simp; exact rfl)
                            | (go_simp; exact ⟨rfl, rfl⟩)
                            | with_reducible exact (HCM.out _).mono (fun e wn ⟨he, hbn⟩ => ⟨he, hW.trans (hbn.mono hW.size)⟩)
                            | with_reducible exact ⟨rfl, (HCM.out _).mono (fun e wn ⟨he, hbn⟩ => ⟨he, hW.trans (hbn.mono hW.size)⟩)⟩
                        clear hK K)))
            refine wpQuiet_nil ?_
            intro W0 hB0
            have hn0 := hnI.trans (hB0.mono hnI.size)
            have HQ0 := Lib.hid (rangeAt_below HQR.out hB0 (rangeAt_lt HQR.out))
            have hown0 := HOWN.out.below hB0
            have HF0 := Lib.hid (HFX.out.next (hB0.mono hsI))
            obtain ⟨_, g0, _⟩ := HF0.out
            have hsz0 : w.heap.size + 3 ≤ W0.heap.size := by have := hB0.size; omega
            have HEr0 := Lib.hid (rangeAt_below HER.out hB0 (rangeAt_lt HER.out))
            have hbo0 : wo.heap.size < W0.heap.size := by have := hB0.size; omega
            have hzn0 : w.heap.size < W0.heap.size := by omega
            go_wp2_with (first
              | (refine loadI rfl _ rfl rfl HQ0.out ?_)
              | (with_reducible refine appendO2 (o := q) rfl _ _ rfl rfl rfl hown0 (by omega) hsz0 ?_; intro v2 w2 hown2 hb2 hg2 hat2))
            go_roundw
            case rel =>
              refine ⟨k + 1, acc ++ [q], by omega, by go_num, hown2, HEQ.out, by simp; omega, hn0.trans (hb2.mono (by omega)), HF0.out.next hb2, rangeAt_block HEr0.out (hg2.block _ hbo0 (fun h => hne h.symm)), ?_⟩
              rcases hat2 with h | h
              · rw [h]; exact hne
              · rw [h]; intro h'; injection h' with h'; omega
            case measure => simp [intOf]; omega
          · -- the same
            rw [uni_same hlx hly, ← HOS.out] at he
            have HEQ := Lib.hid he
            have hx0 : ¬ x < 0 := by omega
            have hx1 : ¬ 0 < x := by omega
            clear he hlx hly hx
            go_wp2
            refine region_lit (C := fun W => Below wi.heap.size wi W) (by kernel_rfl) (by kernel_rfl) (Below.refl _ _).drew ?_
            repeat (
              first
                | (refine quietG (by go_simp) _ rfl rfl (fun W hW => rangeAt_below HQR.out hW (rangeAt_lt HQR.out)) ?_)
                | (refine quietG (by go_simp) _ rfl rfl (fun W hW => rangeAt_below HER.out hW (rangeAt_lt HER.out)) ?_)
                | (refine wpQuiet_step (fun K hK => ?_)
                   go_simp
                   first
                     | (refine hK _ ?_; clear hK K)
                     | (apply Exists.intro
                        refine ⟨fun W hW => ?_, hK _ ?_⟩
                        · have p0 := (hW.cell (p := ⟨w.heap.size, 0, none⟩) hzn).trans HP0.out
                          have p1 := (hW.cell (p := ⟨w.heap.size, 1, none⟩) hzn).trans HP1.out
                          first
                            | (go_simp; exact rfl)
                            | (go_simp; exact ⟨rfl, rfl⟩)
                            | with_reducible exact (HCM.out _).mono (fun e wn ⟨he, hbn⟩ => ⟨he, hW.trans (hbn.mono hW.size)⟩)
                            | with_reducible exact ⟨rfl, (HCM.out _).mono (fun e wn ⟨he, hbn⟩ => ⟨he, hW.trans (hbn.mono hW.size)⟩)⟩
                        clear hK K)))
            refine wpQuiet_nil ?_
            intro W0 hB0
            have HQ0 := Lib.hid (rangeAt_below HQR.out hB0 (rangeAt_lt HQR.out))
            have HEr0 := Lib.hid (rangeAt_below HER.out hB0 (rangeAt_lt HER.out))
            have hg := HFX.out.next (hB0.mono hsI)
            obtain ⟨_, g0, g1, _⟩ := hg
            have HG0 := Lib.hid g0
            have HG1 := Lib.hid g1
            have hzn0 : w.heap.size < W0.heap.size := by have := hB0.size; omega
            have hkne : ((k : Int) == (os.length : Int)) = false := by simp; omega
            have hknn : (k == os.length) = false := by simp; omega
            clear g0 g1
            go_wp2
            refine region_lit (C := fun W => Below W0.heap.size W0 W) (by kernel_rfl) (by kernel_rfl) (Below.refl _ _).drew ?_
            repeat (
              first
                | (refine quietG (by go_simp) _ rfl rfl (fun W hW => rangeAt_below HQ0.out hW (rangeAt_lt HQ0.out)) ?_)
                | (refine quietG (by go_simp) _ rfl rfl (fun W hW => rangeAt_below HEr0.out hW (rangeAt_lt HEr0.out)) ?_)
                | (refine wpQuiet_step (fun K hK => ?_)
                   go_simp
                   first
                     | (refine hK _ ?_; clear hK K)
                     | (apply Exists.intro
                        refine ⟨fun W hW => ?_, hK _ ?_⟩
                        · have p0 := (hW.cell (p := ⟨w.heap.size, 0, none⟩) hzn0).trans HG0.out
                          have p1 := (hW.cell (p := ⟨w.heap.size, 1, none⟩) hzn0).trans HG1.out
                          first
                            | (go_simp; exact rfl)
                            | (go_simp; exact ⟨rfl, rfl⟩)
                            | with_reducible exact (HCM.out _).mono (fun e wn ⟨he, hbn⟩ => ⟨he, hW.trans (hbn.mono hW.size)⟩)
                            | with_reducible exact ⟨rfl, (HCM.out _).mono (fun e wn ⟨he, hbn⟩ => ⟨he, hW.trans (hbn.mono hW.size)⟩)⟩
                        clear hK K)))
            refine wpQuiet_nil ?_
            intro W1 hW1
            have hx1 := hB0.trans (hW1.mono hB0.size)
            have hn1 := hnI.trans (hx1.mono hnI.size)
            have hown1 := HOWN.out.below hx1
            have HF1 := Lib.hid (HFX.out.next (hx1.mono hsI))
            go_wp2
            go_roundw
            case rel => exact ⟨j + 1, k, acc, by omega, hk, by go_num, rfl, hown1, HEQ.out, by omega, hn1, HF1.out⟩
            case measure => simp [intOf]; omega
          · -- the item of the first set is greater
            rw [uni_more hlx hly, ← HOS.out] at he
            have HEQ := Lib.hid (show (acc ++ [e]) ++ uni (ps.drop (j + 1)) (os.drop k) = uni ps os by simpa using he)
            have hx0 : ¬ x < 0 := by omega
            clear he hlx hly
            go_wp2
            refine region_lit (C := fun W => Below wi.heap.size wi W) (by kernel_rfl) (by kernel_rfl) (Below.refl _ _).drew ?_
            repeat (
              first
                | (refine quietG (by go_simp) _ rfl rfl (fun W hW => rangeAt_below HQR.out hW (rangeAt_lt HQR.out)) ?_)
                | (refine quietG (by go_simp) _ rfl rfl (fun W hW => rangeAt_below HER.out hW (rangeAt_lt HER.out)) ?_)
                | (refine wpQuiet_step (fun K hK => ?_)
                   go_simp
                   first
                     | (refine hK _ ?_; clear hK K)
                     | (apply Exists.intro
                        refine ⟨fun W hW => ?_, hK _ ?_⟩
                        · have p0 := (hW.cell (p := ⟨w.heap.size, 0, none⟩) hzn).trans HP0.out
                          have p1 := (hW.cell (p := ⟨w.heap.size, 1, none⟩) hzn).trans HP1.out
                          first
                            | (go_simp; exact rfl)
                            | (go_simp; exact ⟨rfl, rfl⟩)
                            | with_reducible exact (HCM.out _).mono (fun e wn ⟨he, hbn⟩ => ⟨he, hW.trans (hbn.mono hW.size)⟩)
                            | with_reducible exact ⟨rfl, (HCM.out _).mono (fun e wn ⟨he, hbn⟩ => ⟨he, hW.trans (hbn.mono hW.size)⟩)⟩
                        clear hK K)))
            refine wpQuiet_nil ?_
            intro W0 hB0
            have HQ0 := Lib.hid (rangeAt_below HQR.out hB0 (rangeAt_lt HQR.out))
            have HEr0 := Lib.hid (rangeAt_below HER.out hB0 (rangeAt_lt HER.out))
            have hg := HFX.out.next (hB0.mono hsI)
            obtain ⟨_, g0, g1, _⟩ := hg
            have HG0 := Lib.hid g0
            have HG1 := Lib.hid g1
            have hzn0 : w.heap.size < W0.heap.size := by have := hB0.size; omega
            have hkne : ((k : Int) == (os.length : Int)) = false := by simp; omega
            have hknn : (k == os.length) = false := by simp; omega
            clear g0 g1
            go_wp2
            refine region_lit (C := fun W => Below W0.heap.size W0 W) (by kernel_rfl) (by kernel_rfl) (Below.refl _ _).drew ?_
            repeat (
              first
                | (refine quietG (by go_simp) _ rfl rfl (fun W hW => rangeAt_below HQ0.out hW (rangeAt_lt HQ0.out)) ?_)
                | (refine quietG (by go_simp) _ rfl rfl (fun W hW => rangeAt_below HEr0.out hW (rangeAt_lt HEr0.out)) ?_)
                | (refine wpQuiet_step (fun K hK => ?_)
                   go_simp
                   first
                     | (refine hK _ ?_; clear hK K)
                     | (apply Exists.intro
                        refine ⟨fun W hW => ?_, hK _ ?_⟩
                        · have p0 := (hW.cell (p := ⟨w.heap.size, 0, none⟩) hzn0).trans HG0.out
                          have p1 := (hW.cell (p := ⟨w.heap.size, 1, none⟩) hzn0).trans HG1.out
                          first
                            | (go_simp; exact rfl)
                            | (go_simp; exact ⟨rfl, rfl⟩)
                            | with_reducible exact (HCM.out _).mono (fun e wn ⟨he, hbn⟩ => ⟨he, hW.trans (hbn.mono hW.size)⟩)
                            | with_reducible exact ⟨rfl, (HCM.out _).mono (fun e wn ⟨he, hbn⟩ => ⟨he, hW.trans (hbn.mono hW.size)⟩)⟩
                        clear hK K)))
            refine wpQuiet_nil ?_
            intro W1 hW1
            have hx1 := hB0.trans (hW1.mono hB0.size)
            have hn1 := hnI.trans (hx1.mono hnI.size)
            have HE1 := Lib.hid (rangeAt_below HEr0.out hW1 (rangeAt_lt HEr0.out))
            have hown1 := HOWN.out.below hx1
            have hsz1 : w.heap.size + 3 ≤ W1.heap.size := by have := hx1.size; omega
            have HF1 := Lib.hid (HFX.out.next (hx1.mono hsI))
            go_wp2_with (first
              | (refine loadI rfl _ rfl rfl HE1.out ?_)
              | (with_reducible refine appendO2 (o := e) rfl _ _ rfl rfl rfl hown1 (by omega) hsz1 ?_; intro v2 w2 hown2 hb2 hg2 hat2))
            go_roundw
            case rel => exact ⟨j + 1, k, acc ++ [e], by omega, hk, by go_num, rfl, hown2, HEQ.out, by simp; omega, hn1.trans (hb2.mono (by omega)), HF1.out.next hb2⟩
            case measure => simp [intOf]; omega
        · -- the first set is at its end
          have hke : k = os.length := by omega
          have he := heq.out
          rw [HPS.out, hke, List.drop_length, uni_end] at he
          have HEQ := Lib.hid (show (acc ++ [e]) ++ uni (ps.drop (j + 1)) (os.drop k) = uni ps os by rw [hke, List.drop_length]; simpa using he)
          clear he heq
          have hkl' : ¬ (k : Int) < (os.length : Int) := by omega
          have hkne : ((k : Int) == (os.length : Int)) = true := by simp; omega
          have hknn : (k == os.length) = true := by simp; omega
          clear hke
          go_wp2
          refine region_lit (C := fun W => Below wi.heap.size wi W) (by kernel_rfl) (by kernel_rfl) (Below.refl _ _).drew ?_
          repeat (
            first
              | (refine wpQuiet_step (fun K hK => ?_)
                 go_simp
                 first
                   | (refine hK _ ?_; clear hK K)
                   | (apply Exists.intro
                      refine ⟨fun W hW => ?_, hK _ ?_⟩
                      · have p0 := (hW.cell (p := ⟨w.heap.size, 0, none⟩) hzn).trans HP0.out
                        have p1 := (hW.cell (p := ⟨w.heap.size, 1, none⟩) hzn).trans HP1.out
                        first
                          | (go_simp; exact rfl)
                          | (go_simp; exact ⟨rfl, rfl⟩)
                      clear hK K)))
          refine wpQuiet_nil ?_
          intro W0 hB0
          have HEr0 := Lib.hid (rangeAt_below HER.out hB0 (rangeAt_lt HER.out))
          have hg := HFX.out.next (hB0.mono hsI)
          obtain ⟨_, g0, g1, _⟩ := hg
          have HG0 := Lib.hid g0
          have HG1 := Lib.hid g1
          have hzn0 : w.heap.size < W0.heap.size := by have := hB0.size; omega
          clear g0 g1
          go_wp2
          refine region_lit (C := fun W => Below W0.heap.size W0 W) (by kernel_rfl) (by kernel_rfl) (Below.refl _ _).drew ?_
          repeat (
            first
              | (refine wpQuiet_step (fun K hK => ?_)
                 go_simp
                 first
                   | (refine hK _ ?_; clear hK K)
                   | (apply Exists.intro
                      refine ⟨fun W hW => ?_, hK _ ?_⟩
                      · have p0 := (hW.cell (p := ⟨w.heap.size, 0, none⟩) hzn0).trans HG0.out
                        have p1 := (hW.cell (p := ⟨w.heap.size, 1, none⟩) hzn0).trans HG1.out
                        first
                          | (go_simp; exact rfl)
                          | (go_simp; exact ⟨rfl, rfl⟩)
                      clear hK K)))
          refine wpQuiet_nil ?_
          intro W1 hW1
          have hx1 := hB0.trans (hW1.mono hB0.size)
          have hn1 := hnI.trans (hx1.mono hnI.size)
          have HE1 := Lib.hid (rangeAt_below HEr0.out hW1 (rangeAt_lt HEr0.out))
          have hown1 := HOWN.out.below hx1
          have hsz1 : w.heap.size + 3 ≤ W1.heap.size := by have := hx1.size; omega
          have HF1 := Lib.hid (HFX.out.next (hx1.mono hsI))
          go_wp2_with (first
            | (refine loadI rfl _ rfl rfl HE1.out ?_)
            | (with_reducible refine appendO2 (o := e) rfl _ _ rfl rfl rfl hown1 (by omega) hsz1 ?_; intro v2 w2 hown2 hb2 hg2 hat2))
          go_roundw
          case rel => exact ⟨j + 1, k, acc ++ [e], by omega, hk, by go_num, rfl, hown2, HEQ.out, by simp; omega, hn1.trans (hb2.mono (by omega)), HF1.out.next hb2⟩
          case measure => simp [intOf]; omega
    · obtain rfl : j = ps.length := by omega
      have he := heq.out
      rw [List.drop_length] at he
      have HEQ := Lib.hid (show acc ++ os.drop k = uni ps os from he)
      clear he heq
      have HFX := Lib.hid hfx
      obtain ⟨_, f0, f1, _, f4, f5, f6, f7⟩ := hfx
      have HRD := Lib.hid (HA.out.below hnx)
      have hsz : w.heap.size + 3 ≤ wo.heap.size := by omega
      go_wp2_with (first
        | (refine sliceLo (k := k) rfl _ _ rfl rfl rfl hk hc HRD.out ?_; intro A2 c2 hr2)
        | (refine appendOs (ps := os.drop k) rfl _ _ rfl rfl rfl hown hr2 (by simp; omega) hsz ?_; intro v3 w3 hown3 hb3 hz4; have hfx3 := HFX.out.next hb3; obtain ⟨hz6, f0', f1', _, f4', f5', f6', f7'⟩ := hfx3; obtain ⟨av, cv, rfl, _⟩ := ownedO hown3))
      have hlen : (acc ++ os.drop k).length = acc.length + (os.length - k) := by simp
      have hown4 : OwnsO w3 (w.heap.size + 3) (.slice av (acc.length + (os.length - k)) cv) (uni ps os) := by rw [← hlen, ← HEQ.out]; exact hown3
      refine bodyPost_ret (v := .agg #[.slice av (acc.length + (os.length - k)) cv, .func (.func 51) #[] #[]]) (by simp [results, Tryz.results39, go_sem, f4', f5']) rfl ⟨_, rfl, ?_, ?_⟩
      · exact OwnsO.lower (OwnsO.set (OwnsO.set hown4 (by show w.heap.size + 1 + 1 < _; omega) _) (by show w.heap.size + 1 + 1 < _; omega) _) (by omega)
      · exact ((hnx.trans (hb3.mono (by omega))).setCell (by show w.heap.size ≤ w.heap.size + 1 + 1; omega) _).setCell (by show w.heap.size ≤ w.heap.size + 1 + 1; omega) _

end Go.Proofs.YtlogpbejfifgdaaGreat.LhC
