/-
  MakeUndo of the program: its contract. For slices that read as a list of at most 2^20 operations.
-/
import Derived.Test.YtdiifcgalehhbaaMuA
import Derived.Test.YtdiifcgalehhbaaMuW
import Derived.Test.YtdiifcgalehhbaaOpD
import Derived.Test.YtdiifcgalehhbaaLgX
import Derived.Test.YtdiifcgalehhbaaK2
import Derived.Deep.RegionHeld3
import Derived.Deep.DeepCutAuto
import Derived.Outline
namespace Go.Proofs.Ytdiifcgalehhbaa.MuB
open Go.RowKit Go.Proofs.Ytdiifcgalehhbaa.Base Go.Proofs.Ytdiifcgalehhbaa.St Go.Proofs.Ytdiifcgalehhbaa.StB Go.Proofs.Ytdiifcgalehhbaa.Vec Go.Proofs.Ytdiifcgalehhbaa.Row Go.Proofs.Ytdiifcgalehhbaa.RowB Go.Proofs.Ytdiifcgalehhbaa.OpA Go.Proofs.Ytdiifcgalehhbaa.OpB Go.Proofs.Ytdiifcgalehhbaa.OpD Go.Proofs.Ytdiifcgalehhbaa.LgA Go.Proofs.Ytdiifcgalehhbaa.LgB Go.Proofs.Ytdiifcgalehhbaa.LgC Go.Proofs.Ytdiifcgalehhbaa.LgF Go.Proofs.Ytdiifcgalehhbaa.LgH Go.Proofs.Ytdiifcgalehhbaa.LgI Go.Proofs.Ytdiifcgalehhbaa.LgP Go.Proofs.Ytdiifcgalehhbaa.LgW Go.Proofs.Ytdiifcgalehhbaa.LgX Go.Proofs.Ytdiifcgalehhbaa.MuW Go.Proofs.Ytdiifcgalehhbaa.VecE Go.Proofs.Ytdiifcgalehhbaa.MuA
set_option linter.unusedVariables false

def GivesU (w : World) (o : OpV) (b : Bool) (e : Ending) (w' : World) : Prop := e = .returned (.tuple #[.agg #[.int .i64 o.i, .int .i64 o.j, .int .i64 o.k, .int .i64 o.ts, .int .i64 o.ta, .int .i64 o.fs, .int .i64 o.fa, .int .i64 o.ns, .int .i64 o.na, .int .i64 o.v, .bool o.en, .string o.tx], .bool b]) ∧ Below w.heap.size w w'
theorem muOp_no {os : List OpV} {s t : Int} {en : Bool} (h : muOk os s t = false) : muOp os s t en = zop ∧ muT os s t = false := by
  rw [muOp, muT, h]
  exact ⟨if_neg Bool.false_ne_true, rfl⟩

theorem set2c {W : World} {n : Nat} {a b p q : Value} (h0 : W.cell? ⟨n, 0, none⟩ = some p) (h1 : W.cell? ⟨n, 1, none⟩ = some q) :
    ((W.setCell ⟨n, 0, none⟩ a).setCell ⟨n, 1, none⟩ b).cell? ⟨n, 0, none⟩ = some a ∧ ((W.setCell ⟨n, 0, none⟩ a).setCell ⟨n, 1, none⟩ b).cell? ⟨n, 1, none⟩ = some b := by
  constructor <;> simp [go_sem, h0, h1]
theorem le_alloc (w : World) (o : Obj) : w.heap.size ≤ (w.alloc o).heap.size := by simp
theorem keepZ {n : Nat} {W W' : World} (h0 : W.cell? ⟨n, 0, none⟩ = some (.int .i64 0)) (h1 : W.cell? ⟨n, 1, none⟩ = some (.int .i64 0)) (f0 : W.frozen? ⟨n, 0, none⟩ = false) (f1 : W.frozen? ⟨n, 1, none⟩ = false) (b : Below W.heap.size W W') :
    W'.cell? ⟨n, 0, none⟩ = some (.int .i64 0) ∧ W'.cell? ⟨n, 1, none⟩ = some (.int .i64 0) ∧ W'.frozen? ⟨n, 0, none⟩ = false ∧ W'.frozen? ⟨n, 1, none⟩ = false := by
  have hn : n < W.heap.size := World.block_lt_of_cell? W _ h0
  exact ⟨(b.cell (p := ⟨n, 0, none⟩) hn).trans h0, (b.cell (p := ⟨n, 1, none⟩) hn).trans h1, (b.frozen (p := ⟨n, 0, none⟩) hn).trans f0, (b.frozen (p := ⟨n, 1, none⟩) hn).trans f1⟩
theorem newZ (w3 w4 : World) (T : TypeId) (b : Below (w3.alloc (.cells #[.int .i64 0, .int .i64 0] T)).heap.size (w3.alloc (.cells #[.int .i64 0, .int .i64 0] T)) w4) :
    w4.cell? ⟨w3.heap.size, 0, none⟩ = some (.int .i64 0) ∧ w4.cell? ⟨w3.heap.size, 1, none⟩ = some (.int .i64 0) ∧ w4.frozen? ⟨w3.heap.size, 0, none⟩ = false ∧ w4.frozen? ⟨w3.heap.size, 1, none⟩ = false := by
  refine ⟨(b.cell (p := ⟨w3.heap.size, 0, none⟩) (by simp)).trans (by simp [go_sem]), (b.cell (p := ⟨w3.heap.size, 1, none⟩) (by simp)).trans (by simp [go_sem]), (b.frozen (p := ⟨w3.heap.size, 0, none⟩) (by simp)).trans (by simp [go_sem]), (b.frozen (p := ⟨w3.heap.size, 1, none⟩) (by simp)).trans (by simp [go_sem])⟩
theorem lvec_len3 (os : List OpV) : (lvec os).length ≤ 3 := by
  unfold lvec
  split <;> simp

set_option maxRecDepth 200000 in
set_option maxHeartbeats 8000000 in
theorem impl_MakeUndo (a : Option Addr) (c : Nat) (os : List OpV) (s t : Int) (en : Bool) (w : World) (hr : RdO w a os) (hl : os.length ≤ 1048576) (ht : ∀ k, k < os.length → (os.getD k zop).tx.size ≤ maxLen) :
    Calls Try.prog 9 #[.slice a os.length c, .agg #[.int .i64 s, .int .i64 t], .bool en] w (GivesU w (muOp os s t en) (muT os s t)) := by
  obtain ⟨wa, hwa⟩ : ∃ wa, wa = w.alloc (.cells #[.int .i64 s, .int .i64 t] 26) := ⟨_, rfl⟩
  obtain ⟨w0, hw0⟩ : ∃ w0, w0 = wa.alloc (.cells #[.int .i64 0, .int .i64 0, .int .i64 0, .int .i64 0, .int .i64 0, .int .i64 0, .int .i64 0, .int .i64 0, .int .i64 0, .int .i64 0, .bool false, .string ⟨#[]⟩] 28) := ⟨_, rfl⟩
  have za : wa.heap.size = w.heap.size + 1 := by rw [hwa]; simp
  have Ba : Below w.heap.size w wa := by rw [hwa]; exact (Below.refl _ _).alloc (Nat.le_refl _) _
  have B0 : Below wa.heap.size wa w0 := by rw [hw0]; exact (Below.refl _ _).alloc (Nat.le_refl _) _
  have z0 : w0.heap.size = w.heap.size + 2 := by rw [hw0]; simp; omega
  have HK0 := Lib.hid (by rw [hw0, ← za]; exact box_new wa zop : Box w0 (w.heap.size + 1) zop)
  have c0 : wa.cell? ⟨w.heap.size, 0, none⟩ = some (.int .i64 s) := by rw [hwa]; simp [go_sem]
  have c1 : wa.cell? ⟨w.heap.size, 1, none⟩ = some (.int .i64 t) := by rw [hwa]; simp [go_sem]
  have HX := Lib.hid (fun W (hW : Below w0.heap.size w0 W) => (⟨(hW.cell (p := ⟨w.heap.size, 0, none⟩) (by show w.heap.size < _; omega)).trans ((B0.cell (p := ⟨w.heap.size, 0, none⟩) (by show w.heap.size < _; omega)).trans c0), (hW.cell (p := ⟨w.heap.size, 1, none⟩) (by show w.heap.size < _; omega)).trans ((B0.cell (p := ⟨w.heap.size, 1, none⟩) (by show w.heap.size < _; omega)).trans c1)⟩ : W.cell? ⟨w.heap.size, 0, none⟩ = some (.int .i64 s) ∧ W.cell? ⟨w.heap.size, 1, none⟩ = some (.int .i64 t)))
  have HB0 := Lib.hid (Ba.trans (B0.mono (by omega)))
  have HKW := Lib.hid (fun W (hW : Below w0.heap.size w0 W) => (OwnO.below HK0.out hW : Box W (w.heap.size + 1) zop))
  have HW0 := Lib.hid (by rw [hw0, hwa] : w0 = (w.alloc (.cells #[.int .i64 s, .int .i64 t] 26)).alloc (.cells #[.int .i64 0, .int .i64 0, .int .i64 0, .int .i64 0, .int .i64 0, .int .i64 0, .int .i64 0, .int .i64 0, .int .i64 0, .int .i64 0, .bool false, .string ⟨#[]⟩] 28))
  have hV := fun W (h : Below w.heap.size w W) => impl_ValidLog ivop a c os W (hr.below h) hl ht
  have HLV := Lib.hid (fun W (h : Below w.heap.size w W) => impl_LogVector a c os W (hr.below h) hl ht)
  have HR := Lib.hid hr
  obtain ⟨p, hp⟩ : ∃ p, vlog os = p := ⟨_, rfl⟩
  rw [hp] at hV
  have HV := Lib.hid hV
  have HP := Lib.hid hp
  have hzlt : w.heap.size + 1 < w0.heap.size := by omega
  have HBad := Lib.hid (fun (h : p = false) => muOp_no (os := os) (s := s) (t := t) (en := en) (mu_bad (by rw [hp]; exact h)))
  obtain ⟨R, hR⟩ : ∃ R, R = muOp os s t en := ⟨_, rfl⟩
  obtain ⟨T, hT⟩ : ∃ T, T = muT os s t := ⟨_, rfl⟩
  rw [← hR, ← hT]
  have HRT := Lib.hid (And.intro hR hT)
  clear hV hp hr ht hwa hw0 Ba B0 HK0 c0 c1 za z0 hR hT
  go_enter Try.func9, Try.ntmps9
  go_wp2_with fail
  rw [← HW0.out]
  refine (indexFunc 25 ⟨w.heap.size, 0, none⟩ (fun o => decide (o.i = s) && decide (o.j = t)) a c os w0 (HR.out.below HB0.out) hl enU (fun o W hW => closU s t o w.heap.size W (HX.out W hW).1 (HX.out W hW).2)).mono ?_
  rintro e w1 ⟨hres, b1⟩
  have HB1 := Lib.hid b1
  have hz1 := b1.size
  clear b1
  have hcase : (∃ k : Nat, e = .returned (.int .i64 k) ∧ k < os.length ∧ Hid ((decide ((os.getD k zop).i = s) && decide ((os.getD k zop).j = t)) = true)) ∨ (e = .returned (.int .i64 (-1)) ∧ Hid (muOk os s t = false)) := by
    rcases hres with ⟨k, e1, e2, e3⟩ | ⟨e1, e2⟩
    · exact .inl ⟨k, e1, e2, e3⟩
    · exact .inr ⟨e1, mu_none e2⟩
  clear hres
  rcases hcase with ⟨k, rfl, hk, hPk⟩ | ⟨rfl, hno⟩
  · have hk0 : (0 : Int) ≤ (k : Int) := Int.natCast_nonneg _
    have hk1 : (k : Int) < (os.length : Int) := by omega
    go_wp2_with fail
    refine (HV.out _ (HB0.out.trans (HB1.out.mono (by omega)))).mono ?_
    rintro e w2 ⟨rfl, b2⟩
    have HB2 := Lib.hid (HB1.out.trans (b2.mono hz1))
    have HBn := Lib.hid (HB0.out.trans (HB2.out.mono (by omega)))
    have HKn := Lib.hid (HKW.out _ HB2.out)
    have hz2 := HB2.out.size
    clear b2
    cases p
    · obtain ⟨e1, e2⟩ := HBad.out (by first | rfl | trivial)
      obtain ⟨rfl, rfl⟩ : R = zop ∧ T = false := ⟨HRT.out.1.trans e1, HRT.out.2.trans e2⟩
      clear e1 e2 HRT HBad
      go_wp2_with (refine boxRes (o := zop) rfl _ _ rfl rfl rfl HKn.out ?_; intro wf Cf Ef)
      obtain ⟨d0, d1, d2, d3, d4, d5, d6, d7, d8, d9, d10, d11⟩ := Cf
      exact bodyPost_ret (v := .tuple #[.agg #[.int .i64 zop.i, .int .i64 zop.j, .int .i64 zop.k, .int .i64 zop.ts, .int .i64 zop.ta, .int .i64 zop.fs, .int .i64 zop.fa, .int .i64 zop.ns, .int .i64 zop.na, .int .i64 zop.v, .bool zop.en, .string zop.tx], .bool false]) (by simp [results, Try.results9, go_sem, d0, d1, d2, d3, d4, d5, d6, d7, d8, d9, d10, d11]) rfl ⟨rfl, HBn.out.trans (Ef.below (by have := HBn.out.size; omega) (by omega))⟩
    · rcases HR.out with h0 | ⟨b, off, rfl, hc⟩
      · rw [h0] at hk; cases hk
      obtain ⟨o, ho⟩ : ∃ o, o = os.getD k zop := ⟨_, rfl⟩
      obtain ⟨q0, q1, q2, q3, q4, q5, q6, q7, q8, q9, q10, q11⟩ := c12 (by rw [ho]; exact rangeAt_below (hc k hk) HBn.out (rangeAt_lt (hc k hk)) : w2.rangeAt b (off + k * 12) (opL o))
      clear hc
      by_cases h10 : o.k = 10
      · obtain ⟨e1, e2⟩ := muOp_no (os := os) (s := s) (t := t) (en := en) (mu_undo HP.out hk hPk.out (by rw [← ho]; exact h10))
        obtain ⟨rfl, rfl⟩ : R = zop ∧ T = false := ⟨HRT.out.1.trans e1, HRT.out.2.trans e2⟩
        have g10 : (o.k == 10) = true := by simp [h10]
        clear e1 e2 h10 ho HRT HBad
        go_wp2_with (refine boxRes (o := zop) rfl _ _ rfl rfl rfl HKn.out ?_; intro wf Cf Ef)
        obtain ⟨d0, d1, d2, d3, d4, d5, d6, d7, d8, d9, d10, d11⟩ := Cf
        exact bodyPost_ret (v := .tuple #[.agg #[.int .i64 zop.i, .int .i64 zop.j, .int .i64 zop.k, .int .i64 zop.ts, .int .i64 zop.ta, .int .i64 zop.fs, .int .i64 zop.fa, .int .i64 zop.ns, .int .i64 zop.na, .int .i64 zop.v, .bool zop.en, .string zop.tx], .bool false]) (by simp [results, Try.results9, go_sem, d0, d1, d2, d3, d4, d5, d6, d7, d8, d9, d10, d11]) rfl ⟨rfl, HBn.out.trans (Ef.below (by have := HBn.out.size; omega) (by omega))⟩
      · have hok := mu_yes HP.out hk hPk.out (by rw [← ho]; exact h10)
        have g10 : (o.k == 10) = false := by simp [h10]
        have e1 : muOp os s t en = ⟨nSeq (lvec os) t, nWho (lvec os) t, 10, s, t, 0, 0, 0, 0, 0, en, ByteArray.empty⟩ := by rw [muOp, if_pos hok]
        have e2 : muT os s t = nOk (lvec os) t := by rw [muT, hok]; rfl
        have e3 := (mu_law en hok).2
        obtain ⟨S, hS⟩ : ∃ S, S = nSeq (lvec os) t := ⟨_, rfl⟩
        obtain ⟨V, hVV⟩ : ∃ V, V = nWho (lvec os) t := ⟨_, rfl⟩
        rw [← e3, ← hS, ← hVV] at e2
        rw [← hS, ← hVV] at e1
        obtain ⟨rfl, rfl⟩ : R = ⟨S, V, 10, s, t, 0, 0, 0, 0, 0, en, ByteArray.empty⟩ ∧ T = !(zst S V) := ⟨HRT.out.1.trans e1, HRT.out.2.trans e2⟩
        clear e1 e2 e3 h10 ho hok HRT HBad
        have hLw := fun W (hW : Below w2.heap.size w2 W) => HLV.out W (HBn.out.trans (hW.mono HBn.out.size))
        have hvl := lvec_len3 os
        obtain ⟨zs, hzs⟩ : ∃ zs, zs = lvec os := ⟨_, rfl⟩
        rw [← hzs] at hLw hvl hS hVV
        have HLw := Lib.hid hLw
        have HNS := Lib.hid (fun av cv W (h : Rd W av zs) => (by have := impl_NextStamp av cv zs t W h (by omega); rwa [← hS, ← hVV] at this : Calls Try.prog 27 #[.slice av zs.length cv, .int .i64 t] W fun e w' => e = .returned (.agg #[.int .i64 S, .int .i64 V]) ∧ Below W.heap.size W w'))
        have HXW := Lib.hid (fun W (hW : Below w2.heap.size w2 W) => HX.out W (HB2.out.trans (hW.mono hz2)))
        obtain ⟨x0, x1⟩ := HXW.out w2.drew (Below.refl w2.heap.size w2).drew
        have m0 := World.new_ne w2.drew _ x0
        obtain ⟨xa0, xa1⟩ := HXW.out (w2.drew.alloc (.cells #[.int .i64 0, .int .i64 0] 26)) (Below.alloc (Below.refl w2.heap.size w2).drew (Nat.le_refl _) _)
        have xb0 : (w2.alloc (.cells #[.int .i64 0, .int .i64 0] 26)).drew.cell? ⟨w.heap.size, 0, none⟩ = some (.int .i64 s) := xa0
        have xb1 : (w2.alloc (.cells #[.int .i64 0, .int .i64 0] 26)).drew.cell? ⟨w.heap.size, 1, none⟩ = some (.int .i64 t) := xa1
        have xc0 : (w2.alloc (.cells #[.int .i64 0, .int .i64 0] 26)).cell? ⟨w.heap.size, 0, none⟩ = some (.int .i64 s) := xa0
        have xc1 : (w2.alloc (.cells #[.int .i64 0, .int .i64 0] 26)).cell? ⟨w.heap.size, 1, none⟩ = some (.int .i64 t) := xa1
        clear hLw hzs hS hVV HLV HV
        go_upto_region 4 with (fail)
        clear q0 q1 q2 q3 q4 q5 q6 q7 q8 q9 q10 q11
        go_cut [9] (fun sb wx => ∃ nb, sb = .pointer (some ⟨nb, 0, none⟩) ∧ w2.heap.size ≤ nb ∧ wx.cell? ⟨nb, 0, none⟩ = some (.int .i64 S) ∧ wx.cell? ⟨nb, 1, none⟩ = some (.int .i64 V) ∧ Below w2.heap.size w2 wx)
        case first =>
          go_region_with (first
            | (go_at_call 27
               refine (HNS.out _ _ _ ?_).mono ?_
               · first | exact HRv.out | exact Rd.below HRv.out ((Below.refl _ _).alloc (Nat.le_refl _) _)
               rintro e w4 ⟨rfl, b4⟩
               have b24 : Below w2.heap.size w2 w4 := by
                 first
                 | exact HB23.out.trans (b4.mono HB23.out.size)
                 | exact (Below.alloc HB23.out HB23.out.size _).trans (b4.mono (Nat.le_trans HB23.out.size (le_alloc _ _)))
               have HB24 := Lib.hid b24
               obtain ⟨u0, u1⟩ := HXW.out _ b24
               obtain ⟨ua0, ua1⟩ := HXW.out (w4.alloc (.cells #[.int .i64 0, .int .i64 0] 26)) (Below.alloc b24 b24.size _)
               have n4 := World.new_ne w4 _ u0
               (try (have hq := keepZ y0 y1 f0 f1 b4; obtain ⟨y2, y3, f2, f3⟩ := hq))
               (try (have hq := newZ w3 w4 _ b4; obtain ⟨y4, y5, f4, f5⟩ := hq))
               clear b4 b24)
            | (go_at_call 28
               refine (HLw.out _ ?_).mono ?_
               · first | exact (Below.refl w2.heap.size w2).drew | exact Below.alloc (Below.refl w2.heap.size w2).drew (Nat.le_refl _) _
               rintro e w3 ⟨av, cv, rfl, rowv, b3⟩
               have HRv := Lib.hid rowv.rd
               have b23 : Below w2.heap.size w2 w3 := by
                 first
                 | exact (Below.refl w2.heap.size w2).drew.trans b3
                 | exact (Below.alloc (Below.refl w2.heap.size w2).drew (Nat.le_refl _) _).trans (b3.mono (le_alloc _ _))
               have HB23 := Lib.hid b23
               obtain ⟨v0, v1⟩ := HXW.out _ b23
               obtain ⟨va0, va1⟩ := HXW.out (w3.alloc (.cells #[.int .i64 0, .int .i64 0] 26)) (Below.alloc b23 b23.size _)
               have n3 := World.new_ne w3 _ v0
               (try (have hq := newZ w2.drew w3 _ b3; have y0 : w3.cell? ⟨w2.heap.size, 0, none⟩ = some (.int .i64 0) := hq.1; have y1 : w3.cell? ⟨w2.heap.size, 1, none⟩ = some (.int .i64 0) := hq.2.1; have f0 : w3.frozen? ⟨w2.heap.size, 0, none⟩ = false := hq.2.2.1; have f1 : w3.frozen? ⟨w2.heap.size, 1, none⟩ = false := hq.2.2.2; clear hq))
               clear rowv b3 b23))
          all_goals
            go_wp2_with fail
            go_meet
            first
              | exact ⟨_, rfl, HB24.out.size, by simp [go_sem], by simp [go_sem], HB24.out.alloc HB24.out.size _⟩
              | exact ⟨_, rfl, HB23.out.size, (set2c y4 y5).1, (set2c y4 y5).2, (HB24.out.setCell HB23.out.size _).setCell HB23.out.size _⟩
              | exact ⟨_, rfl, Nat.le_refl _, (set2c y2 y3).1, (set2c y2 y3).2, (HB24.out.setCell (Nat.le_refl _) _).setCell (Nat.le_refl _) _⟩
              | exact ⟨_, rfl, Nat.le_refl _, (set2c y4 y5).1, (set2c y4 y5).2, (HB24.out.setCell (Nat.le_refl _) _).setCell (Nat.le_refl _) _⟩
              | exact ⟨_, rfl, Nat.le_refl _, (set2c y0 y1).1, (set2c y0 y1).2, (HB24.out.setCell (Nat.le_refl _) _).setCell (Nat.le_refl _) _⟩
        case rest =>
          obtain ⟨nb, rfl, hnb, cS, cV, hbc⟩ := hcut
          have HBC := Lib.hid hbc
          have HKc := Lib.hid (HKW.out _ (HB2.out.trans (hbc.mono hz2)))
          obtain ⟨cs, ct⟩ := HXW.out _ hbc
          have lnb : nb < wc.heap.size := World.block_lt_of_cell? _ _ cS
          have lws : w.heap.size < wc.heap.size := World.block_lt_of_cell? _ _ cs
          have HO := Lib.hid (fun W => opOf10 S V s t en W)
          have HZ := Lib.hid (fun W => impl_isZero S V W)
          have HCS := Lib.hid cS
          have HCV := Lib.hid cV
          have HCs := Lib.hid cs
          have HCt := Lib.hid ct
          have dS : wc.drew.cell? ⟨nb, 0, none⟩ = some (.int .i64 S) := cS
          have dV : wc.drew.cell? ⟨nb, 1, none⟩ = some (.int .i64 V) := cV
          have ds : wc.drew.cell? ⟨w.heap.size, 0, none⟩ = some (.int .i64 s) := cs
          have dt : wc.drew.cell? ⟨w.heap.size, 1, none⟩ = some (.int .i64 t) := ct
          clear hbc cS cV cs ct x0 x1 m0 xa0 xa1 xb0 xb1 xc0 xc1 HLw HNS
          go_wp2_with fail
          go_region_with (first
            | (go_at_call 29
               refine (HO.out _).mono ?_
               rintro e w5 ⟨rfl, b5⟩
               have b5' : Below wc.heap.size wc w5 := (Below.refl wc.heap.size wc).drew.trans b5
               have HB5 := Lib.hid b5'
               have eS := (b5'.cell (p := ⟨nb, 0, none⟩) lnb).trans HCS.out
               have eV := (b5'.cell (p := ⟨nb, 1, none⟩) lnb).trans HCV.out
               clear b5 b5')
            | (go_at_call 30
               refine (HZ.out _).mono ?_
               rintro e w6 ⟨rfl, b6⟩
               have b6' : Below wc.heap.size wc w6 := HB5.out.trans (b6.mono HB5.out.size)
               have HB6 := Lib.hid b6'
               have HK6 := Lib.hid (OwnO.below HKc.out b6')
               obtain ⟨z0, z1, z2, z3, z4, z5, z6, z7, z8, z9, z10, z11⟩ := c12 (Box.range HK6.out)
               have fz0 := OwnO.frozen HK6.out 0; have fz1 := OwnO.frozen HK6.out 1; have fz2 := OwnO.frozen HK6.out 2; have fz3 := OwnO.frozen HK6.out 3; have fz4 := OwnO.frozen HK6.out 4; have fz5 := OwnO.frozen HK6.out 5; have fz6 := OwnO.frozen HK6.out 6; have fz7 := OwnO.frozen HK6.out 7; have fz8 := OwnO.frozen HK6.out 8; have fz9 := OwnO.frozen HK6.out 9; have fz10 := OwnO.frozen HK6.out 10; have fz11 := OwnO.frozen HK6.out 11
               clear b6 b6'))
          all_goals
            go_wp2_with fail
            have Bw := HBn.out.trans ((HBC.out.trans (HB6.out.mono HBC.out.size)).mono HBn.out.size)
            exact bodyPost_ret (v := .tuple #[.agg #[.int .i64 S, .int .i64 V, .int .i64 10, .int .i64 s, .int .i64 t, .int .i64 0, .int .i64 0, .int .i64 0, .int .i64 0, .int .i64 0, .bool en, .string ByteArray.empty], .bool (!(zst S V))]) (by simp [results, Try.results9, go_sem, z0, z1, z2, z3, z4, z5, z6, z7, z8, z9, z10, z11]) rfl ⟨rfl, Bw.trans ((wr12 w6 (w.heap.size + 1) _ _ _ _ _ _ _ _ _ _ _ _).below Bw.size (by omega))⟩
  · go_wp2_with fail
    refine (HV.out _ (HB0.out.trans (HB1.out.mono (by omega)))).mono ?_
    rintro e w2 ⟨rfl, b2⟩
    have HB2 := Lib.hid (HB1.out.trans (b2.mono hz1))
    have HBn := Lib.hid (HB0.out.trans (HB2.out.mono (by omega)))
    have HKn := Lib.hid (HKW.out _ HB2.out)
    have hz2 := HB2.out.size
    clear b2
    obtain ⟨e1, e2⟩ := muOp_no (en := en) hno.out
    obtain ⟨rfl, rfl⟩ : R = zop ∧ T = false := ⟨HRT.out.1.trans e1, HRT.out.2.trans e2⟩
    clear e1 e2 HRT HBad
    cases p
    · skip
      go_wp2_with (refine boxRes (o := zop) rfl _ _ rfl rfl rfl HKn.out ?_; intro wf Cf Ef)
      obtain ⟨d0, d1, d2, d3, d4, d5, d6, d7, d8, d9, d10, d11⟩ := Cf
      exact bodyPost_ret (v := .tuple #[.agg #[.int .i64 zop.i, .int .i64 zop.j, .int .i64 zop.k, .int .i64 zop.ts, .int .i64 zop.ta, .int .i64 zop.fs, .int .i64 zop.fa, .int .i64 zop.ns, .int .i64 zop.na, .int .i64 zop.v, .bool zop.en, .string zop.tx], .bool false]) (by simp [results, Try.results9, go_sem, d0, d1, d2, d3, d4, d5, d6, d7, d8, d9, d10, d11]) rfl ⟨rfl, HBn.out.trans (Ef.below (by have := HBn.out.size; omega) (by omega))⟩
    · skip
      go_wp2_with (refine boxRes (o := zop) rfl _ _ rfl rfl rfl HKn.out ?_; intro wf Cf Ef)
      obtain ⟨d0, d1, d2, d3, d4, d5, d6, d7, d8, d9, d10, d11⟩ := Cf
      exact bodyPost_ret (v := .tuple #[.agg #[.int .i64 zop.i, .int .i64 zop.j, .int .i64 zop.k, .int .i64 zop.ts, .int .i64 zop.ta, .int .i64 zop.fs, .int .i64 zop.fa, .int .i64 zop.ns, .int .i64 zop.na, .int .i64 zop.v, .bool zop.en, .string zop.tx], .bool false]) (by simp [results, Try.results9, go_sem, d0, d1, d2, d3, d4, d5, d6, d7, d8, d9, d10, d11]) rfl ⟨rfl, HBn.out.trans (Ef.below (by have := HBn.out.size; omega) (by omega))⟩

end Go.Proofs.Ytdiifcgalehhbaa.MuB
