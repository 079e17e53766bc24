/-
  DrawLogMerge of the reader: two slices of the call's own, each of at most 29 operations with short texts; nothing that was there is written. For every slice of bytes.
-/
import Derived.Test.YtmhflifaeplalaaRfC
import Derived.Test.YtmhflifaeplalaaK4
import Derived.Maps.AppendAt
import Derived.Outline
namespace Go.Proofs.Ytmhflifaeplalaa.MoE
open Go.RowKit Go.Proofs.Ytmhflifaeplalaa.Base Go.Proofs.Ytmhflifaeplalaa.OpA Go.Proofs.Ytmhflifaeplalaa.OpB Go.Proofs.Ytmhflifaeplalaa.LgA Go.Proofs.Ytmhflifaeplalaa.LgB Go.Proofs.Ytmhflifaeplalaa.LgC Go.Proofs.Ytmhflifaeplalaa.LgF Go.Proofs.Ytmhflifaeplalaa.LgN Go.Proofs.Ytmhflifaeplalaa.LgP Go.Proofs.Ytmhflifaeplalaa.LgZ Go.Proofs.Ytmhflifaeplalaa.LhA Go.Proofs.Ytmhflifaeplalaa.RdA Go.Proofs.Ytmhflifaeplalaa.RdB Go.Proofs.Ytmhflifaeplalaa.RdD Go.Proofs.Ytmhflifaeplalaa.RfC
set_option linter.unusedVariables false

/-- append of one operation to a row of the call's own, beside another one. -/
theorem appendO2 {ops : Array Oper} {rest : List Oper} {op : Oper} {a : Act} {w0 : World} {Q : Exit → Act → World → Prop} (hgd : op.guard = none) (s x : Operand)
    (ho : op.op = .call { callee := .builtin .append, args := #[s, x], argTypes := #[48, 48] }) {lo : Nat} {v u : Value} {os us : List OpV} {o : OpV} {c : Nat}
    (hs : a.eval s = v) (hx : a.eval x = .slice (some ⟨w0.heap.size, 0, none⟩) 1 c) (hown : OwnsO w0 lo v os) (hu : OwnsO w0 lo u us) (hne : v.ownBlock ≠ u.ownBlock) (hlen : os.length ≤ 1048576) (hlo : lo ≤ w0.heap.size)
    (k : ∀ v' w', OwnsO w' lo v' (os ++ [o]) → OwnsO w' lo u us → v'.ownBlock ≠ u.ownBlock → Below lo w0 w' → lo ≤ w'.heap.size → wpList Try.prog ops Q rest (a.put op.dst v') w') :
    wpList Try.prog ops Q (op :: rest) a (w0.alloc (.cells #[.int .i64 o.i, .int .i64 o.j, .int .i64 o.k, .int .i64 o.ts, .int .i64 o.ta, .int .i64 o.fs, .int .i64 o.fa, .int .i64 o.ns, .int .i64 o.na, .int .i64 o.v, .bool o.en, .string o.tx] 54)) := by
  obtain ⟨i0, hi, hz0, hz1, hz2⟩ := info_parts info104
  refine wpList_append_own_at _ hgd s x 48 ho lo 54 i0 _ 12 104 Try.underlying48 hi hz0 hz1 hz2 rfl (by omega) v os.length (flat os) hs (World.ownsRow.alloc hown _) ⟨w0.heap.size, 0, none⟩ 1 c (opL o) hx rfl (news w0 o) ?_ ?_ ?_ ?_ ?_
  · intro u hu
    exact flat_one' [o] u (by rw [flat_one]; exact hu)
  · unfold maxLen; omega
  · omega
  · simp; omega
  · intro v' w' h1 h2 _ hat
    have hu' : (w0.alloc (.cells #[.int .i64 o.i, .int .i64 o.j, .int .i64 o.k, .int .i64 o.ts, .int .i64 o.ta, .int .i64 o.fs, .int .i64 o.fa, .int .i64 o.ns, .int .i64 o.na, .int .i64 o.v, .bool o.en, .string o.tx] 54)).ownsRow lo 54 12 u us.length (flat us) := World.ownsRow.alloc hu _
    refine k v' w' ?_ (hu'.kept h2 (.inr fun e => hne e.symm)) ?_ ((((Below.refl lo w0).alloc hlo _)).grown h2 (by simp; omega) (fun k hk => ?_)) (Nat.le_trans hlo (Nat.le_trans (by simp) h2.size))
    · unfold OwnsO
      rw [List.length_append, flat_append, flat_one]
      exact h1
    · rcases hat with e | e
      · rw [e]; exact hne
      · intro e2
        rw [e] at e2
        have := (World.ownsRow.lt hu' _ e2.symm).2
        omega
    · exact (World.ownsRow.lt (show w0.ownsRow lo 54 12 v os.length (flat os) from hown) k hk).1

def Short (os : List OpV) : Prop := ∀ o ∈ os, o.tx.size ≤ 8
theorem Short.snoc {os : List OpV} {o : OpV} (h : Short os) (ho : o.tx.size ≤ 8) : Short (os ++ [o]) := by
  intro p hp
  rcases List.mem_append.1 hp with hp | hp
  · exact h p hp
  · rw [List.mem_singleton.1 hp]; exact ho

/-- Two logs that are drawn. -/
def Drawn2 (w : World) (e : Ending) (w' : World) : Prop :=
  (∃ (u v : Value) (us vs : List OpV), e = .returned (.tuple #[u, v]) ∧ OwnsO w' w.heap.size u us ∧ OwnsO w' w.heap.size v vs ∧ us.length ≤ 29 ∧ vs.length ≤ 29 ∧ Short us ∧ Short vs) ∧ Below w.heap.size w w'

theorem wr_grow {R : Nat} {a b c : World} (h : Wr R a b) (k : Below a.heap.size b c) : Wr R a c := ⟨k.os.trans h.os, k.tape.trans h.tape, k.output.trans h.output, Nat.le_trans h.size k.size, fun i hi hne => (k.block i hi).trans (h.block i hi hne)⟩
theorem ownsO_lower {w : World} {lo lo' : Nat} {v : Value} {os : List OpV} (h : OwnsO w lo v os) (hl : lo' ≤ lo) : OwnsO w lo' v os := by
  unfold OwnsO at h ⊢
  refine ⟨h.1, ?_⟩
  rcases h.2 with h0 | ⟨g, cap, cur, e1, hb, hr⟩
  · exact .inl h0
  · exact .inr ⟨g, cap, cur, e1, Nat.le_trans hl hb, hr⟩

set_option maxRecDepth 100000 in
set_option maxHeartbeats 4000000 in
theorem drawMerge (a : Option Addr) (cap : Nat) (xs : List Int) (w : World) (rx : RdB w a xs) (hx : xs.length ≤ cap) :
    Calls Try.prog 40 #[.slice a xs.length cap] w (Drawn2 w) := by
  have HN := Lib.hid (newReader a cap xs w rx hx)
  clear rx
  go_enter Try.func40, Try.ntmps40
  go_wp2_with fail
  refine HN.out.mono ?_
  rintro e w1 ⟨rfl, ⟨a1, c1, zs, hs⟩, b1, hz⟩
  have HA := Lib.hid (anyLog (w.heap.size + 1) w.heap.size a1 c1 0 zs w1 hs (by omega) (by omega))
  clear hs HN
  go_wp2_with fail
  refine HA.out.mono ?_
  rintro e w2 ⟨⟨A, c, os, rfl, hrow, hlen, ht⟩, ⟨p0, hp0, hs2⟩, hw⟩
  have B2 : Below w.heap.size w w2 := b1.trans (hw.below (by omega) (Nat.le_refl _))
  have HRow := Lib.hid hrow
  have HT := Lib.hid ht
  have HB2 := Lib.hid B2
  have HS2 := Lib.hid hs2
  have z12 := hw.size
  clear hrow ht HA B2 hs2
  obtain ⟨lo, hlo⟩ : ∃ lo, lo = w2.heap.size := ⟨_, rfl⟩
  have HLO := Lib.hid hlo
  have hlo1 : w.heap.size + 1 ≤ lo := by omega
  have hlo2 : lo ≤ w2.heap.size := by omega
  have HOA := Lib.hid (show OwnsO ((w2.alloc (.cells #[] 54)).alloc (.cells #[] 54)) lo (.slice (some ⟨w2.heap.size, 0, none⟩) 0 0) [] from World.ownsRow.alloc (ownsO_empty w2 lo hlo2) _)
  have HOB := Lib.hid (show OwnsO ((w2.alloc (.cells #[] 54)).alloc (.cells #[] 54)) lo (.slice (some ⟨w2.heap.size + 1, 0, none⟩) 0 0) [] from by have := ownsO_empty (w2.alloc (.cells #[] 54)) lo (by simp; omega); rwa [World.size_alloc] at this)
  have HW0 := Lib.hid (((Wr.refl w.heap.size w2).alloc (.cells #[] 54)).alloc (.cells #[] 54))
  have HS0 := Lib.hid (HS2.out.below ((((Below.refl (w.heap.size + 1) w2).alloc (by omega) (.cells #[] 54))).alloc (by simp; omega) (.cells #[] 54)))
  clear hlo
  go_wp2
  go_loopw [6, 7, 8] (fun va vb i wr => ∃ (k p : Nat) (us vs : List OpV), k ≤ os.length ∧ i = .int .i64 k ∧ OwnsO wr lo va us ∧ OwnsO wr lo vb vs ∧ va.ownBlock ≠ vb.ownBlock ∧ Hid (us.length ≤ k ∧ vs.length ≤ k ∧ Short us ∧ Short vs ∧ p ≤ 1010 + k) ∧ RS (w.heap.size + 1) wr w.heap.size a1 c1 p zs ∧ Wr w.heap.size w2 wr) (fun _ _ i _ => os.length - (intOf i).toNat)
  case atStart => exact ⟨0, p0, [], [], Nat.zero_le _, rfl, HOA.out, HOB.out, by simp [Value.ownBlock], (⟨Nat.le_refl _, Nat.le_refl _, fun o ho => (by cases ho), fun o ho => (by cases ho), by omega⟩ : _ ∧ _ ∧ _ ∧ _ ∧ _), HS0.out, HW0.out⟩
  case round =>
    obtain ⟨k, p, us, vs, hk, rfl, hoa, hob, hne, hfin, hrs, hwr⟩ := hrel
    by_cases hlt : k < os.length
    · have hp : p ≤ 1010 + k := hfin.out.2.2.2.2
      have hul : us.length ≤ k := hfin.out.1
      have hvl : vs.length ≤ k := hfin.out.2.1
      have HP := Lib.hid (pickS (w.heap.size + 1) w.heap.size a1 c1 p 3 zs wr hrs (by omega) (by omega) (by omega))
      have zw := hwr.size
      have HOA := Lib.hid (show OwnsO wr lo _ us from hoa)
      have HOB := Lib.hid (show OwnsO wr lo _ vs from hob)
      have HWR := Lib.hid hwr
      clear hrs hoa hob hwr
      go_wp2_with fail
      refine HP.out.mono ?_
      rintro e w3 ⟨⟨m, hm, rfl⟩, hrs3, hw3⟩
      have hwr3 := HWR.out.trans hw3
      have z3 := hwr3.size
      rcases RowO.wr HRow.out hwr3 (by omega) with ⟨_, h0⟩ | ⟨g, rfl, hg, hrow3⟩
      · omega
      obtain ⟨o, ho⟩ : ∃ o, o = os.getD k zop := ⟨_, rfl⟩
      have hgl : g < w2.heap.size := by
        rcases HRow.out with ⟨_, h0⟩ | ⟨g', e', hg', hr'⟩
        · omega
        · injection e' with e'
          injection e' with e'
          subst e'
          exact hr'.lt
      have HR := Lib.hid (show w3.rangeAt g (k * 12) (opL o) from by rw [ho]; exact hrow3.range hlt)
      have HOS := Lib.hid (show o.tx.size ≤ 8 from by rw [ho]; exact HT.out k hlt)
      have HOA3 := Lib.hid (OwnsO.wr HOA.out hw3 (by omega))
      have HOB3 := Lib.hid (OwnsO.wr HOB.out hw3 (by omega))
      have HRS3 := Lib.hid hrs3
      have HWR3 := Lib.hid hwr3
      have hlo3 : lo ≤ w3.heap.size := by omega
      have hgl2 : g < lo := by have := HLO.out; omega
      have hk0 : (0 : Int) ≤ (k : Int) := Int.natCast_nonneg _
      have hk1 : (k : Int) < (os.length : Int) := by omega
      have hul' : us.length ≤ 1048576 := by omega
      have hvl' : vs.length ≤ 1048576 := by omega
      clear hrs3 hw3 hwr3 hrow3 ho HP
      rcases (show m = 0 ∨ m = 1 ∨ m = 2 by omega) with rfl | rfl | rfl
      · go_wp2_with (first
          | (refine loadI rfl _ rfl rfl HR.out ?_)
          | ((with_reducible refine appendO2 (o := o) rfl _ _ rfl rfl rfl HOA3.out HOB3.out ?_ hul' hlo3 ?_); exact hne; intro v4 w4 hoa4 hob4 hne4 hb4 hz4))
        go_roundw
        case rel => exact ⟨k + 1, p + 1, us ++ [o], vs, by omega, by go_num, hoa4, hob4, hne4, (⟨by simp; omega, by omega, hfin.out.2.2.1.snoc HOS.out, hfin.out.2.2.2.1, by omega⟩ : _ ∧ _ ∧ _ ∧ _ ∧ _), HRS3.out.below (hb4.mono hlo1), wr_grow HWR3.out (by rw [← HLO.out]; exact hb4)⟩
        case measure => simp [intOf]; omega
      · go_wp2_with (first
          | (refine loadI rfl _ rfl rfl HR.out ?_)
          | ((with_reducible refine appendO2 (o := o) rfl _ _ rfl rfl rfl HOA3.out HOB3.out ?_ hul' hlo3 ?_); exact hne; intro v4 w4 hoa4 hob4 hne4 hb4 hz4; have HOA4 := Lib.hid hoa4; have HOB4 := Lib.hid hob4; have HR4 := Lib.hid (rangeAt_below HR.out (hb4.mono hgl2) (Nat.lt_succ_self g)); have HB4 := Lib.hid hb4; clear hoa4 hob4 hb4)
          | (refine loadI rfl _ rfl rfl HR4.out ?_)
          | ((with_reducible refine appendO2 (o := o) rfl _ _ rfl rfl rfl HOB4.out HOA4.out ?_ hvl' hz4 ?_); exact hne4.symm; intro v5 w5 hob5 hoa5 hne5 hb5 hz5))
        go_roundw
        case rel => exact ⟨k + 1, p + 1, us ++ [o], vs ++ [o], by omega, by go_num, hoa5, hob5, hne5.symm, (⟨by simp; omega, by simp; omega, hfin.out.2.2.1.snoc HOS.out, hfin.out.2.2.2.1.snoc HOS.out, by omega⟩ : _ ∧ _ ∧ _ ∧ _ ∧ _), HRS3.out.below ((HB4.out.trans hb5).mono hlo1), wr_grow HWR3.out (by rw [← HLO.out]; exact (HB4.out.trans hb5))⟩
        case measure => simp [intOf]; omega
      · go_wp2_with (first
          | (refine loadI rfl _ rfl rfl HR.out ?_)
          | ((with_reducible refine appendO2 (o := o) rfl _ _ rfl rfl rfl HOB3.out HOA3.out ?_ hvl' hlo3 ?_); exact hne.symm; intro v4 w4 hob4 hoa4 hne4 hb4 hz4))
        go_roundw
        case rel => exact ⟨k + 1, p + 1, us, vs ++ [o], by omega, by go_num, hoa4, hob4, hne4.symm, (⟨by omega, by simp; omega, hfin.out.2.2.1, hfin.out.2.2.2.1.snoc HOS.out, by omega⟩ : _ ∧ _ ∧ _ ∧ _ ∧ _), HRS3.out.below (hb4.mono hlo1), wr_grow HWR3.out (by rw [← HLO.out]; exact hb4)⟩
        case measure => simp [intOf]; omega
    · obtain rfl : k = os.length := by omega
      go_wp2
      go_ret2
      have hf := hfin.out
      have hl1 : w.heap.size ≤ lo := by omega
      exact ⟨⟨_, _, us, vs, rfl, ownsO_lower hoa hl1, ownsO_lower hob hl1, by omega, by omega, hf.2.2.1, hf.2.2.2.1⟩, HB2.out.trans (hwr.below (by omega) (Nat.le_refl _))⟩

end Go.Proofs.Ytmhflifaeplalaa.MoE
