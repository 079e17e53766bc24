/-
  MakeUndo of the model: its contract. For slices that read as a list of at most 2^20 operations.
-/
import Derived.Test.YtdiifcgalehhbaaMuB
namespace Go.Proofs.Ytdiifcgalehhbaa.MuC
open Go.RowKit Go.Proofs.Ytdiifcgalehhbaa.Base Go.Proofs.Ytdiifcgalehhbaa.St Go.Proofs.Ytdiifcgalehhbaa.StB Go.Proofs.Ytdiifcgalehhbaa.Vec Go.Proofs.Ytdiifcgalehhbaa.Row Go.Proofs.Ytdiifcgalehhbaa.RowB Go.Proofs.Ytdiifcgalehhbaa.OpA Go.Proofs.Ytdiifcgalehhbaa.OpB Go.Proofs.Ytdiifcgalehhbaa.OpD Go.Proofs.Ytdiifcgalehhbaa.LgA Go.Proofs.Ytdiifcgalehhbaa.LgB Go.Proofs.Ytdiifcgalehhbaa.LgC Go.Proofs.Ytdiifcgalehhbaa.LgF Go.Proofs.Ytdiifcgalehhbaa.LgH Go.Proofs.Ytdiifcgalehhbaa.LgI Go.Proofs.Ytdiifcgalehhbaa.LgP Go.Proofs.Ytdiifcgalehhbaa.LgW Go.Proofs.Ytdiifcgalehhbaa.LgX Go.Proofs.Ytdiifcgalehhbaa.MuW Go.Proofs.Ytdiifcgalehhbaa.VecE Go.Proofs.Ytdiifcgalehhbaa.MuA Go.Proofs.Ytdiifcgalehhbaa.MuB
set_option linter.unusedVariables false

theorem set12 {w : World} {k : Nat} {z : OpV} (h : Box w k z) (o : OpV) : C12 (w.setCells k 0 (opL o)) k 0 o := by
  obtain ⟨g, hr, hg⟩ := h.row
  have hr2 := rowIs_setCells (opL o) 0 w g hr
  have e : (w.setCells k 0 (opL o)).rangeAt k 0 (opL o) := by
    intro j v hv
    have hj : j < 12 := by
      have := (List.getElem?_eq_some_iff.1 hv).1
      rwa [opL_len] at this
    rw [hr2.cell (i := 0 + j) (by omega), if_pos (by rw [opL_len]; omega), List.getD_eq_getElem?_getD, show 0 + j - 0 = j by omega, hv]
    rfl
  exact c12 e
theorem c12k {w w' : World} {b o : Nat} {x : OpV} (h : C12 w b o x) (hb : Below w.heap.size w w') (hl : b < w.heap.size) : C12 w' b o x := by
  obtain ⟨h0, h1, h2, h3, h4, h5, h6, h7, h8, h9, h10, h11⟩ := h
  exact ⟨(hb.cell (p := ⟨b, o, none⟩) hl).trans h0, (hb.cell (p := ⟨b, o + 1, none⟩) hl).trans h1, (hb.cell (p := ⟨b, o + 2, none⟩) hl).trans h2, (hb.cell (p := ⟨b, o + 3, none⟩) hl).trans h3, (hb.cell (p := ⟨b, o + 4, none⟩) hl).trans h4, (hb.cell (p := ⟨b, o + 5, none⟩) hl).trans h5, (hb.cell (p := ⟨b, o + 6, none⟩) hl).trans h6, (hb.cell (p := ⟨b, o + 7, none⟩) hl).trans h7, (hb.cell (p := ⟨b, o + 8, none⟩) hl).trans h8, (hb.cell (p := ⟨b, o + 9, none⟩) hl).trans h9, (hb.cell (p := ⟨b, o + 10, none⟩) hl).trans h10, (hb.cell (p := ⟨b, o + 11, none⟩) hl).trans h11⟩
theorem lvec_is {os : List OpV} (h : vlog os = true) : lvec os = [vmx os os.length 0, vmx os os.length 1, vmx os os.length 2] := by rw [lvec, h]; rfl

set_option maxRecDepth 200000 in
set_option maxHeartbeats 8000000 in
theorem spec_MakeUndo (a : Option Addr) (c : Nat) (os : List OpV) (s t : Int) (en : Bool) (w : World) (hr : RdO w a os) (hl : os.length ≤ 1048576) (ht : ∀ k, k < os.length → (os.getD k zop).tx.size ≤ maxLen) :
    Calls Try.prog 6 #[.slice a os.length c, .agg #[.int .i64 s, .int .i64 t], .bool en] w (GivesU w (muOp os s t en) (muT os s t)) := by
  obtain ⟨wa, hwa⟩ : ∃ wa, wa = w.alloc (.cells #[.int .i64 s, .int .i64 t] 26) := ⟨_, rfl⟩
  obtain ⟨w0, hw0⟩ : ∃ w0, w0 = wa.alloc (.cells #[.int .i64 0, .int .i64 0, .int .i64 0, .int .i64 0, .int .i64 0, .int .i64 0, .int .i64 0, .int .i64 0, .int .i64 0, .int .i64 0, .bool false, .string ⟨#[]⟩] 28) := ⟨_, rfl⟩
  have za : wa.heap.size = w.heap.size + 1 := by rw [hwa]; simp
  have Ba : Below w.heap.size w wa := by rw [hwa]; exact (Below.refl _ _).alloc (Nat.le_refl _) _
  have B0 : Below wa.heap.size wa w0 := by rw [hw0]; exact (Below.refl _ _).alloc (Nat.le_refl _) _
  have z0 : w0.heap.size = w.heap.size + 2 := by rw [hw0]; simp; omega
  have HK0 := Lib.hid (by rw [hw0, ← za]; exact box_new wa zop : Box w0 (w.heap.size + 1) zop)
  have c0 : wa.cell? ⟨w.heap.size, 0, none⟩ = some (.int .i64 s) := by rw [hwa]; simp [go_sem]
  have c1 : wa.cell? ⟨w.heap.size, 1, none⟩ = some (.int .i64 t) := by rw [hwa]; simp [go_sem]
  have HX := Lib.hid (fun W (hW : Below w0.heap.size w0 W) => (⟨(hW.cell (p := ⟨w.heap.size, 0, none⟩) (by show w.heap.size < _; omega)).trans ((B0.cell (p := ⟨w.heap.size, 0, none⟩) (by show w.heap.size < _; omega)).trans c0), (hW.cell (p := ⟨w.heap.size, 1, none⟩) (by show w.heap.size < _; omega)).trans ((B0.cell (p := ⟨w.heap.size, 1, none⟩) (by show w.heap.size < _; omega)).trans c1)⟩ : W.cell? ⟨w.heap.size, 0, none⟩ = some (.int .i64 s) ∧ W.cell? ⟨w.heap.size, 1, none⟩ = some (.int .i64 t)))
  have HB0 := Lib.hid (Ba.trans (B0.mono (by omega)))
  have HKW := Lib.hid (fun W (hW : Below w0.heap.size w0 W) => (OwnO.below HK0.out hW : Box W (w.heap.size + 1) zop))
  have HW0 := Lib.hid (by rw [hw0, hwa] : w0 = (w.alloc (.cells #[.int .i64 s, .int .i64 t] 26)).alloc (.cells #[.int .i64 0, .int .i64 0, .int .i64 0, .int .i64 0, .int .i64 0, .int .i64 0, .int .i64 0, .int .i64 0, .int .i64 0, .int .i64 0, .bool false, .string ⟨#[]⟩] 28))
  have hV := fun W (h : Below w.heap.size w W) => spec_validLog svop a c os W (hr.below h) hl ht
  have HLV := Lib.hid (fun (hv : vlog os = true) W (h : Below w.heap.size w W) => (by have := spec_logVector a c os W (hr.below h) hl (allTo_of hv); rwa [← lvec_is hv] at this : Calls Try.prog 21 #[.slice a os.length c] W (Gives W (lvec os))))
  have HFO := Lib.hid (fun W (h : Below w.heap.size w W) => spec_findOp a c os s t W (hr.below h) hl)
  have HR := Lib.hid hr
  obtain ⟨p, hp⟩ : ∃ p, vlog os = p := ⟨_, rfl⟩
  rw [hp] at hV
  have HV := Lib.hid hV
  have HP := Lib.hid hp
  have hzlt : w.heap.size + 1 < w0.heap.size := by omega
  have HBad := Lib.hid (fun (h : p = false) => muOp_no (os := os) (s := s) (t := t) (en := en) (mu_bad (by rw [hp]; exact h)))
  obtain ⟨R, hR⟩ : ∃ R, R = muOp os s t en := ⟨_, rfl⟩
  obtain ⟨T, hT⟩ : ∃ T, T = muT os s t := ⟨_, rfl⟩
  rw [← hR, ← hT]
  have HRT := Lib.hid (And.intro hR hT)
  clear hV hp hr ht hwa hw0 Ba B0 HK0 c0 c1 za z0 hR hT
  go_enter Try.func6, Try.ntmps6
  go_wp2_with fail
  rw [← HW0.out]
  refine (HV.out _ HB0.out).mono ?_
  rintro e w1 ⟨rfl, b1⟩
  have HB1 := Lib.hid b1
  have hz1 := b1.size
  clear b1
  cases p
  · have HBn := Lib.hid (HB0.out.trans (HB1.out.mono HB0.out.size))
    have HKn := Lib.hid (HKW.out _ HB1.out)
    obtain ⟨e1, e2⟩ := HBad.out (by first | rfl | trivial)
    obtain ⟨rfl, rfl⟩ : R = zop ∧ T = false := ⟨HRT.out.1.trans e1, HRT.out.2.trans e2⟩
    clear e1 e2 HRT HBad
    go_wp2_with (refine boxRes (o := zop) rfl _ _ rfl rfl rfl HKn.out ?_; intro wf Cf Ef)
    obtain ⟨d0, d1, d2, d3, d4, d5, d6, d7, d8, d9, d10, d11⟩ := Cf
    exact bodyPost_ret (v := .tuple #[.agg #[.int .i64 zop.i, .int .i64 zop.j, .int .i64 zop.k, .int .i64 zop.ts, .int .i64 zop.ta, .int .i64 zop.fs, .int .i64 zop.fa, .int .i64 zop.ns, .int .i64 zop.na, .int .i64 zop.v, .bool zop.en, .string zop.tx], .bool false]) (by simp [results, Try.results6, go_sem, d0, d1, d2, d3, d4, d5, d6, d7, d8, d9, d10, d11]) rfl ⟨rfl, HBn.out.trans (Ef.below (by have := HBn.out.size; omega) (by omega))⟩
  · obtain ⟨x0, x1⟩ := HX.out _ HB1.out
    go_wp2_with fail
    refine (HFO.out _ (HB0.out.trans (HB1.out.mono HB0.out.size))).mono ?_
    rintro e w2 ⟨hres, b2⟩
    have HB2 := Lib.hid (HB1.out.trans (b2.mono hz1))
    have HBn := Lib.hid (HB0.out.trans (HB2.out.mono HB0.out.size))
    have HKn := Lib.hid (HKW.out _ HB2.out)
    have hz2 := HB2.out.size
    clear x0 x1 b2
    have hcase : (∃ k : Nat, e = .returned (.int .i64 k) ∧ k < os.length ∧ Hid ((decide ((os.getD k zop).i = s) && decide ((os.getD k zop).j = t)) = true)) ∨ (e = .returned (.int .i64 (-1)) ∧ Hid (muOk os s t = false)) := by
      rcases hres with ⟨k, e1, e2, e3, e4⟩ | ⟨e1, e2⟩
      · exact .inl ⟨k, e1, e2, by show _ = true; rw [decide_eq_true e3, decide_eq_true e4]; rfl⟩
      · refine .inr ⟨e1, mu_none fun m hm => ?_⟩
        have := e2 m hm
        rw [Bool.and_eq_false_iff, decide_eq_false_iff_not, decide_eq_false_iff_not]
        omega
    clear hres
    rcases hcase with ⟨k, rfl, hk, hPk⟩ | ⟨rfl, hno⟩
    · have hk0 : (0 : Int) ≤ (k : Int) := Int.natCast_nonneg _
      have hk1 : (k : Int) < (os.length : Int) := by omega
      rcases HR.out with h0 | ⟨b, off, rfl, hc⟩
      · rw [h0] at hk; cases hk
      obtain ⟨o, ho⟩ : ∃ o, o = os.getD k zop := ⟨_, rfl⟩
      obtain ⟨q0, q1, q2, q3, q4, q5, q6, q7, q8, q9, q10, q11⟩ := c12 (by rw [ho]; exact rangeAt_below (hc k hk) HBn.out (rangeAt_lt (hc k hk)) : w2.rangeAt b (off + k * 12) (opL o))
      clear hc
      by_cases h10 : o.k = 10
      · obtain ⟨e1, e2⟩ := muOp_no (os := os) (s := s) (t := t) (en := en) (mu_undo HP.out hk hPk.out (by rw [← ho]; exact h10))
        obtain ⟨rfl, rfl⟩ : R = zop ∧ T = false := ⟨HRT.out.1.trans e1, HRT.out.2.trans e2⟩
        have g10 : (o.k == 10) = true := by simp [h10]
        clear e1 e2 h10 ho HRT HBad
        go_wp2_with (refine boxRes (o := zop) rfl _ _ rfl rfl rfl HKn.out ?_; intro wf Cf Ef)
        obtain ⟨d0, d1, d2, d3, d4, d5, d6, d7, d8, d9, d10, d11⟩ := Cf
        exact bodyPost_ret (v := .tuple #[.agg #[.int .i64 zop.i, .int .i64 zop.j, .int .i64 zop.k, .int .i64 zop.ts, .int .i64 zop.ta, .int .i64 zop.fs, .int .i64 zop.fa, .int .i64 zop.ns, .int .i64 zop.na, .int .i64 zop.v, .bool zop.en, .string zop.tx], .bool false]) (by simp [results, Try.results6, go_sem, d0, d1, d2, d3, d4, d5, d6, d7, d8, d9, d10, d11]) rfl ⟨rfl, HBn.out.trans (Ef.below (by have := HBn.out.size; omega) (by omega))⟩
      · have hok := mu_yes HP.out hk hPk.out (by rw [← ho]; exact h10)
        have g10 : (o.k == 10) = false := by simp [h10]
        have e1 : muOp os s t en = ⟨nSeq (lvec os) t, nWho (lvec os) t, 10, s, t, 0, 0, 0, 0, 0, en, ByteArray.empty⟩ := by rw [muOp, if_pos hok]
        have e2 : muT os s t = nOk (lvec os) t := by rw [muT, hok]; rfl
        have e3 := (mu_law en hok).1
        obtain ⟨S, hS⟩ : ∃ S, S = nSeq (lvec os) t := ⟨_, rfl⟩
        obtain ⟨V, hVV⟩ : ∃ V, V = nWho (lvec os) t := ⟨_, rfl⟩
        rw [← e3, ← hS, ← hVV] at e2
        rw [← hS, ← hVV] at e1
        obtain ⟨rfl, hTT⟩ : R = ⟨S, V, 10, s, t, 0, 0, 0, 0, 0, en, ByteArray.empty⟩ ∧ T = vop ⟨S, V, 10, s, t, 0, 0, 0, 0, 0, en, ByteArray.empty⟩ := ⟨HRT.out.1.trans e1, HRT.out.2.trans e2⟩
        have HVO := Lib.hid (fun W => (by have := svop ⟨S, V, 10, s, t, 0, 0, 0, 0, 0, en, ByteArray.empty⟩ W (by show ByteArray.empty.size ≤ maxLen; decide); rwa [← hTT] at this : Calls Try.prog 22 #[.agg #[.int .i64 S, .int .i64 V, .int .i64 10, .int .i64 s, .int .i64 t, .int .i64 0, .int .i64 0, .int .i64 0, .int .i64 0, .int .i64 0, .bool en, .string ByteArray.empty]] W fun e w' => e = .returned (.bool T) ∧ Below W.heap.size W w'))
        clear e1 e2 e3 h10 ho hok HRT HBad hTT
        have hLw := fun W (hW : Below w2.heap.size w2 W) => HLV.out HP.out W (HBn.out.trans (hW.mono HBn.out.size))
        have hvl := lvec_len3 os
        obtain ⟨zs, hzs⟩ : ∃ zs, zs = lvec os := ⟨_, rfl⟩
        rw [← hzs] at hLw hvl hS hVV
        have HLw := Lib.hid hLw
        have HNS := Lib.hid (fun av cv W (h : Rd W av zs) => (by have := spec_NextStamp av cv zs t W h (by omega); rwa [← hS, ← hVV] at this : Calls Try.prog 20 #[.slice av zs.length cv, .int .i64 t] W fun e w' => e = .returned (.agg #[.int .i64 S, .int .i64 V]) ∧ Below W.heap.size W w'))
        have HXW := Lib.hid (fun W (hW : Below w2.heap.size w2 W) => HX.out W (HB2.out.trans (hW.mono hz2)))
        obtain ⟨x0, x1⟩ := HXW.out w2.drew (Below.refl w2.heap.size w2).drew
        have m0 := World.new_ne w2.drew _ x0
        obtain ⟨xa0, xa1⟩ := HXW.out (w2.drew.alloc (.cells #[.int .i64 0, .int .i64 0, .int .i64 0, .int .i64 0, .int .i64 0, .int .i64 0, .int .i64 0, .int .i64 0, .int .i64 0, .int .i64 0, .bool false, .string ⟨#[]⟩] 28)) (Below.alloc (Below.refl w2.heap.size w2).drew (Nat.le_refl _) _)
        have xb0 : (w2.alloc (.cells #[.int .i64 0, .int .i64 0, .int .i64 0, .int .i64 0, .int .i64 0, .int .i64 0, .int .i64 0, .int .i64 0, .int .i64 0, .int .i64 0, .bool false, .string ⟨#[]⟩] 28)).drew.cell? ⟨w.heap.size, 0, none⟩ = some (.int .i64 s) := xa0
        have xb1 : (w2.alloc (.cells #[.int .i64 0, .int .i64 0, .int .i64 0, .int .i64 0, .int .i64 0, .int .i64 0, .int .i64 0, .int .i64 0, .int .i64 0, .int .i64 0, .bool false, .string ⟨#[]⟩] 28)).drew.cell? ⟨w.heap.size, 1, none⟩ = some (.int .i64 t) := xa1
        have xc0 : (w2.alloc (.cells #[.int .i64 0, .int .i64 0, .int .i64 0, .int .i64 0, .int .i64 0, .int .i64 0, .int .i64 0, .int .i64 0, .int .i64 0, .int .i64 0, .bool false, .string ⟨#[]⟩] 28)).cell? ⟨w.heap.size, 0, none⟩ = some (.int .i64 s) := xa0
        have xc1 : (w2.alloc (.cells #[.int .i64 0, .int .i64 0, .int .i64 0, .int .i64 0, .int .i64 0, .int .i64 0, .int .i64 0, .int .i64 0, .int .i64 0, .int .i64 0, .bool false, .string ⟨#[]⟩] 28)).cell? ⟨w.heap.size, 1, none⟩ = some (.int .i64 t) := xa1
        clear hLw hzs hS hVV HLV HV HFO
        go_upto_region 6 with (fail)
        clear q0 q1 q2 q3 q4 q5 q6 q7 q8 q9 q10 q11
        go_cut [9] (fun sb wx => ∃ nb, sb = .pointer (some ⟨nb, 0, none⟩) ∧ w2.heap.size ≤ nb ∧ nb < wx.heap.size ∧ C12 wx nb 0 ⟨S, V, 10, s, t, 0, 0, 0, 0, 0, en, ByteArray.empty⟩ ∧ Below w2.heap.size w2 wx)
        case first =>
          go_region_with (first
            | (go_at_call 20
               refine (HNS.out _ _ _ ?_).mono ?_
               · first | exact HRv.out | exact Rd.below HRv.out ((Below.refl _ _).alloc (Nat.le_refl _) _)
               rintro e w4 ⟨rfl, b4⟩
               have b24 : Below w2.heap.size w2 w4 := by
                 first
                 | exact HB23.out.trans (b4.mono HB23.out.size)
                 | exact (Below.alloc HB23.out HB23.out.size _).trans (b4.mono (Nat.le_trans HB23.out.size (le_alloc _ _)))
               have HB24 := Lib.hid b24
               obtain ⟨u0, u1⟩ := HXW.out _ b24
               obtain ⟨ua0, ua1⟩ := HXW.out (w4.alloc (.cells #[.int .i64 0, .int .i64 0, .int .i64 0, .int .i64 0, .int .i64 0, .int .i64 0, .int .i64 0, .int .i64 0, .int .i64 0, .int .i64 0, .bool false, .string ⟨#[]⟩] 28)) (Below.alloc b24 b24.size _)
               have n4 := World.new_ne w4 _ u0
               (try (have bk : Box w4 w2.heap.size zop := OwnO.below HK3.out b4; have HK4 := Lib.hid bk; have hnb : w2.heap.size ≤ w2.heap.size := Nat.le_refl _; clear bk; obtain ⟨z0, z1, z2, z3, z4, z5, z6, z7, z8, z9, z10, z11⟩ := c12 (Box.range HK4.out); have fz0 := OwnO.frozen HK4.out 0; have fz1 := OwnO.frozen HK4.out 1; have fz2 := OwnO.frozen HK4.out 2; have fz3 := OwnO.frozen HK4.out 3; have fz4 := OwnO.frozen HK4.out 4; have fz5 := OwnO.frozen HK4.out 5; have fz6 := OwnO.frozen HK4.out 6; have fz7 := OwnO.frozen HK4.out 7; have fz8 := OwnO.frozen HK4.out 8; have fz9 := OwnO.frozen HK4.out 9; have fz10 := OwnO.frozen HK4.out 10; have fz11 := OwnO.frozen HK4.out 11))
               (try (have bk : Box w4 w3.heap.size zop := OwnO.below (box_new w3 zop) b4; have HK4 := Lib.hid bk; have hnb := HB23.out.size; clear bk; obtain ⟨z0, z1, z2, z3, z4, z5, z6, z7, z8, z9, z10, z11⟩ := c12 (Box.range HK4.out); have fz0 := OwnO.frozen HK4.out 0; have fz1 := OwnO.frozen HK4.out 1; have fz2 := OwnO.frozen HK4.out 2; have fz3 := OwnO.frozen HK4.out 3; have fz4 := OwnO.frozen HK4.out 4; have fz5 := OwnO.frozen HK4.out 5; have fz6 := OwnO.frozen HK4.out 6; have fz7 := OwnO.frozen HK4.out 7; have fz8 := OwnO.frozen HK4.out 8; have fz9 := OwnO.frozen HK4.out 9; have fz10 := OwnO.frozen HK4.out 10; have fz11 := OwnO.frozen HK4.out 11))
               clear b4 b24)
            | (go_at_call 21
               refine (HLw.out _ ?_).mono ?_
               · first | exact (Below.refl w2.heap.size w2).drew | exact Below.alloc (Below.refl w2.heap.size w2).drew (Nat.le_refl _) _
               rintro e w3 ⟨av, cv, rfl, rowv, b3⟩
               have HRv := Lib.hid rowv.rd
               have b23 : Below w2.heap.size w2 w3 := by
                 first
                 | exact (Below.refl w2.heap.size w2).drew.trans b3
                 | exact (Below.alloc (Below.refl w2.heap.size w2).drew (Nat.le_refl _) _).trans (b3.mono (le_alloc _ _))
               have HB23 := Lib.hid b23
               obtain ⟨v0, v1⟩ := HXW.out _ b23
               obtain ⟨va0, va1⟩ := HXW.out (w3.alloc (.cells #[.int .i64 0, .int .i64 0, .int .i64 0, .int .i64 0, .int .i64 0, .int .i64 0, .int .i64 0, .int .i64 0, .int .i64 0, .int .i64 0, .bool false, .string ⟨#[]⟩] 28)) (Below.alloc b23 b23.size _)
               have n3 := World.new_ne w3 _ v0
               (try (have bk : Box w3 w2.heap.size zop := OwnO.below (box_new w2.drew zop) b3; have HK3 := Lib.hid bk; clear bk))
               clear rowv b3 b23))
          all_goals
            go_wp2_with fail
            go_meet
            first
              | exact ⟨_, rfl, HB24.out.size, by simp, c12 (Box.range (box_new w4 ⟨S, V, 10, s, t, 0, 0, 0, 0, 0, en, ByteArray.empty⟩)), HB24.out.alloc HB24.out.size _⟩
              | exact ⟨_, rfl, hnb, by simp; exact Box.lt HK4.out, set12 HK4.out ⟨S, V, 10, s, t, 0, 0, 0, 0, 0, en, ByteArray.empty⟩, below_setCells hnb (opL ⟨S, V, 10, s, t, 0, 0, 0, 0, 0, en, ByteArray.empty⟩) 0 _ HB24.out⟩
        case rest =>
          obtain ⟨nb, rfl, hnb, lnb, cN, hbc⟩ := hcut
          have HBC := Lib.hid hbc
          have HKc := Lib.hid (HKW.out _ (HB2.out.trans (hbc.mono hz2)))
          have HCN := Lib.hid cN
          obtain ⟨n0, n1, n2, n3, n4, n5, n6, n7, n8, n9, n10, n11⟩ := c12k cN (Below.refl wc.heap.size wc).drew lnb
          clear hbc cN x0 x1 m0 xa0 xa1 xb0 xb1 xc0 xc1 HLw HNS
          go_wp2_with fail
          go_region_with (first
            | (go_at_call 22
               refine (HVO.out _).mono ?_
               rintro e w6 ⟨rfl, b6⟩
               have b6' : Below wc.heap.size wc w6 := (Below.refl wc.heap.size wc).drew.trans b6
               have HB6 := Lib.hid b6'
               have HK6 := Lib.hid (OwnO.below HKc.out b6')
               obtain ⟨m0, m1, m2, m3, m4, m5, m6, m7, m8, m9, m10, m11⟩ := c12k HCN.out b6' lnb
               obtain ⟨z0, z1, z2, z3, z4, z5, z6, z7, z8, z9, z10, z11⟩ := c12 (Box.range HK6.out)
               have fz0 := OwnO.frozen HK6.out 0; have fz1 := OwnO.frozen HK6.out 1; have fz2 := OwnO.frozen HK6.out 2; have fz3 := OwnO.frozen HK6.out 3; have fz4 := OwnO.frozen HK6.out 4; have fz5 := OwnO.frozen HK6.out 5; have fz6 := OwnO.frozen HK6.out 6; have fz7 := OwnO.frozen HK6.out 7; have fz8 := OwnO.frozen HK6.out 8; have fz9 := OwnO.frozen HK6.out 9; have fz10 := OwnO.frozen HK6.out 10; have fz11 := OwnO.frozen HK6.out 11
               clear b6 b6'))
          all_goals
            go_wp2_with fail
            have Bw := HBn.out.trans ((HBC.out.trans (HB6.out.mono HBC.out.size)).mono HBn.out.size)
            exact bodyPost_ret (v := .tuple #[.agg #[.int .i64 S, .int .i64 V, .int .i64 10, .int .i64 s, .int .i64 t, .int .i64 0, .int .i64 0, .int .i64 0, .int .i64 0, .int .i64 0, .bool en, .string ByteArray.empty], .bool T]) (by simp [results, Try.results6, go_sem, z0, z1, z2, z3, z4, z5, z6, z7, z8, z9, z10, z11]) rfl ⟨rfl, Bw.trans ((wr12 w6 (w.heap.size + 1) _ _ _ _ _ _ _ _ _ _ _ _).below Bw.size (by omega))⟩
    · obtain ⟨e1, e2⟩ := muOp_no (en := en) hno.out
      obtain ⟨rfl, rfl⟩ : R = zop ∧ T = false := ⟨HRT.out.1.trans e1, HRT.out.2.trans e2⟩
      clear e1 e2 HRT HBad
      go_wp2_with (refine boxRes (o := zop) rfl _ _ rfl rfl rfl HKn.out ?_; intro wf Cf Ef)
      obtain ⟨d0, d1, d2, d3, d4, d5, d6, d7, d8, d9, d10, d11⟩ := Cf
      exact bodyPost_ret (v := .tuple #[.agg #[.int .i64 zop.i, .int .i64 zop.j, .int .i64 zop.k, .int .i64 zop.ts, .int .i64 zop.ta, .int .i64 zop.fs, .int .i64 zop.fa, .int .i64 zop.ns, .int .i64 zop.na, .int .i64 zop.v, .bool zop.en, .string zop.tx], .bool false]) (by simp [results, Try.results6, go_sem, d0, d1, d2, d3, d4, d5, d6, d7, d8, d9, d10, d11]) rfl ⟨rfl, HBn.out.trans (Ef.below (by have := HBn.out.size; omega) (by omega))⟩

end Go.Proofs.Ytdiifcgalehhbaa.MuC
