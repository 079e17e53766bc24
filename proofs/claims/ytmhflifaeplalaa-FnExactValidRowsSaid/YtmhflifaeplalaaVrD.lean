/-
  ValidRows of the specification's text: its contract. For slices that read as a list of at most 2^20 rows.
-/
import Derived.Test.YtmhflifaeplalaaVrB
import Derived.Deep.RegionHeld3
import Derived.Outline
namespace Go.Proofs.Ytmhflifaeplalaa.VrD
open Go.RowKit Go.Proofs.Ytmhflifaeplalaa.Base Go.Proofs.Ytmhflifaeplalaa.VecA Go.Proofs.Ytmhflifaeplalaa.GsA Go.Proofs.Ytmhflifaeplalaa.GwB Go.Proofs.Ytmhflifaeplalaa.St Go.Proofs.Ytmhflifaeplalaa.Vec Go.Proofs.Ytmhflifaeplalaa.Row Go.Proofs.Ytmhflifaeplalaa.RowB Go.Proofs.Ytmhflifaeplalaa.ScA Go.Proofs.Ytmhflifaeplalaa.VrA Go.Proofs.Ytmhflifaeplalaa.VrB
set_option linter.unusedVariables false

theorem ownsI_empty (w : World) (lo : Nat) (hl : lo ≤ w.heap.size) : OwnsI (w.alloc (.cells #[] 3)) lo (.slice (some ⟨w.heap.size, 0, none⟩) 0 0) [] :=
  ⟨rfl, .inr ⟨w.heap.size, 0, #[], rfl, hl, heap_alloc_new _ _, Nat.le_refl _, Nat.zero_le _, rfl, rfl⟩⟩
theorem ownsRow_lower {w : World} {lo lo' : Nat} {e : TypeId} {s : Nat} {v : Value} {n : Nat} {xs : List Value} (h : w.ownsRow lo e s v n xs) (hl : lo' ≤ lo) : w.ownsRow lo' e s v n xs := by
  refine ⟨h.1, ?_⟩
  rcases h.2 with h0 | ⟨g, cap, cur, e1, hb, hr⟩
  · exact .inl h0
  · exact .inr ⟨g, cap, cur, e1, Nat.le_trans hl hb, hr⟩
theorem rd_take {w : World} {ad : Addr} {ch : List Int} (h : Rd w (some ad) ch) (d : Nat) : ∀ j u, ((ch.take d).map (Value.int .i64))[j]? = some u → w.cell? (ad.add j) = some u := by
  intro j u hu
  rw [List.map_take, List.getElem?_take] at hu
  split at hu
  · rw [List.getElem?_map] at hu
    cases hq : ch[j]? with
    | none => rw [hq] at hu; cases hu
    | some z =>
      rw [hq] at hu
      injection hu with hu
      obtain ⟨hj, hz⟩ := List.getElem?_eq_some_iff.mp hq
      rcases h with h0 | ⟨b, off, e, hc⟩
      · rw [h0] at hj; cases hj
      · injection e with e
        subst e
        rw [Addr.add_mid, hc j hj, ← hu, List.getD_eq_getElem?_getD, hq]
        rfl
  · cases hu
theorem keepA {wb W : World} {n : Nat} {x y : Value} (o : Obj) (h : W.cell? ⟨n, 2, none⟩ = some x ∧ W.cell? ⟨n, 3, none⟩ = some y ∧ Below wb.heap.size wb W) :
    (W.alloc o).cell? ⟨n, 2, none⟩ = some x ∧ (W.alloc o).cell? ⟨n, 3, none⟩ = some y ∧ Below wb.heap.size wb (W.alloc o) := by
  have bal := (Below.refl W.heap.size W).alloc (Nat.le_refl _) o
  exact ⟨(bal.cell (World.block_lt_of_cell? W _ h.1)).trans h.1, (bal.cell (World.block_lt_of_cell? W _ h.2.1)).trans h.2.1, h.2.2.alloc h.2.2.size _⟩
theorem keepG {wb W w1 : World} {n : Nat} {x y : Value} {row : Option Nat} (hn : n < wb.heap.size) (h : W.cell? ⟨n, 2, none⟩ = some x ∧ W.cell? ⟨n, 3, none⟩ = some y ∧ Below wb.heap.size wb W) (hg : W.grownBy w1 row) (hr : ∀ k, row = some k → wb.heap.size ≤ k) :
    w1.cell? ⟨n, 2, none⟩ = some x ∧ w1.cell? ⟨n, 3, none⟩ = some y ∧ Below wb.heap.size wb w1 := by
  have hb := h.2.2.grown hg h.2.2.size hr
  have e2 : w1.cell? ⟨n, 2, none⟩ = W.cell? ⟨n, 2, none⟩ := (hb.cell (p := ⟨n, 2, none⟩) hn).trans (h.2.2.cell (p := ⟨n, 2, none⟩) hn).symm
  have e3 : w1.cell? ⟨n, 3, none⟩ = W.cell? ⟨n, 3, none⟩ := (hb.cell (p := ⟨n, 3, none⟩) hn).trans (h.2.2.cell (p := ⟨n, 3, none⟩) hn).symm
  exact ⟨e2.trans h.1, e3.trans h.2.1, hb⟩
theorem newsK {w0 w1 : World} {x : Int} {row : Option Nat} (hg : (w0.alloc (.cells #[.int .i64 x] 3)).grownBy w1 row) (hr : row ≠ some w0.heap.size) : ∀ j u, [Value.int .i64 x][j]? = some u → w1.cell? ((⟨w0.heap.size, 0, none⟩ : Addr).add j) = some u := by
  intro j u hu
  rw [← newsI w0 x j u hu, Addr.add_mid]
  exact World.cell?_of_block (a := ⟨w0.heap.size, 0 + j, none⟩) (hg.block w0.heap.size (by simp) (fun e => hr e.symm))
theorem newsK2 {w0 w1 : World} {x : Int} {o : Obj} {row : Option Nat} (hg : ((w0.alloc (.cells #[.int .i64 x] 3)).alloc o).grownBy w1 row) (hr : row ≠ some w0.heap.size) : ∀ j u, [Value.int .i64 x][j]? = some u → w1.cell? ((⟨w0.heap.size, 0, none⟩ : Addr).add j) = some u := by
  intro j u hu
  rw [← newsI w0 x j u hu, Addr.add_mid]
  have hz : w0.heap.size < (w0.alloc (.cells #[.int .i64 x] 3)).heap.size := by simp
  have b := (Below.refl (w0.alloc (.cells #[.int .i64 x] 3)).heap.size _).alloc (Nat.le_refl _) o
  refine (World.cell?_of_block (a := ⟨w0.heap.size, 0 + j, none⟩) (hg.block w0.heap.size (by simp; omega) (fun e => hr e.symm))).trans ?_
  exact b.cell (p := ⟨w0.heap.size, 0 + j, none⟩) hz

set_option maxRecDepth 100000 in
set_option maxHeartbeats 4000000 in
theorem spec_ValidRows (a : Option Addr) (c : Nat) (xs : List RowV) (w : World) (hr : RdG ERow w a xs) (hl : xs.length ≤ 1048576) :
    Calls Try.prog 17 #[.slice a xs.length c] w fun e w' => e = .returned (.bool (okTo xs xs.length)) ∧ Below w.heap.size w w' := by
  have HR := Lib.hid hr
  have HN := Lib.hid (ownsI_empty w w.heap.size (Nat.le_refl _))
  have HN2 := Lib.hid ((Below.refl w.heap.size w).alloc (Nat.le_refl _) (.cells #[] 3))
  obtain ⟨i0, hi, hz0, hz1, hz2⟩ := info_parts infoI
  clear hr
  go_enter Try.func17, Try.ntmps17
  go_wp2
  go_loopw [3, 4] (fun v i wr => ∃ k : Nat, k ≤ xs.length ∧ i = .int .i64 k ∧ (∃ ad cc, v = .slice (some ad) (chAt xs k).length cc) ∧ OwnsI wr w.heap.size v (chAt xs k) ∧ Hid (okTo xs k = true) ∧ Below w.heap.size w wr) (fun _ i _ => xs.length - (intOf i).toNat)
  case atStart => exact ⟨0, Nat.zero_le _, rfl, ⟨_, _, rfl⟩, HN.out, (rfl : _ = _), HN2.out⟩
  case round =>
    obtain ⟨k, hk, rfl, ⟨ad, ca, rfl⟩, hown, hok, hnx⟩ := hrel
    by_cases hlt : k < xs.length
    · rcases HR.out with h0 | ⟨b, off, rfl, hc⟩
      · rw [h0] at hlt
        cases hlt
      obtain ⟨A, ca', e0, hrd, hcc, hcm, _⟩ := hown.form
      injection e0 with e1 _ e3
      subst e1 e3
      obtain ⟨x, hx⟩ : ∃ x, x = xs.getD k zRow := ⟨_, rfl⟩
      have HRg := Lib.hid (by rw [hx]; exact rangeAt_below (hc k hlt) hnx (rangeAt_ltG ERow (hc k hlt)) : wr.rangeAt b (off + k * 5) (ERow.L x))
      have hcl := chAt_len xs k
      have hst : okTo xs (k + 1) = (okTo xs k && okRow (chAt xs k) x) := by rw [hx]; rfl
      have hch : chAt xs (k + 1) = nx (chAt xs k) x := by rw [hx]; rfl
      have HBad := Lib.hid (fun (h : okRow (chAt xs k) x = false) => okTo_bad xs (k := k) (by rw [← hx]; exact h) xs.length hlt)
      have HST := Lib.hid hst
      have HCH := Lib.hid hch
      have HOW := Lib.hid hown
      have HRD := Lib.hid hrd
      have HNX := Lib.hid hnx
      have HCM := Lib.hid hcm
      have zr := hnx.size
      clear hst hch hown hrd hnx hc hx hcm
      generalize chAt xs k = ch at HST HCH HOW HRD HBad hcl hcc
      have hcl2 : ch.length ≤ 1048576 := by omega
      obtain ⟨xi, xj, xk, xd, xt⟩ := x
      obtain ⟨wb, hwb⟩ : ∃ wb, wb = wr.alloc (.cells #[.int .i64 xi, .int .i64 xj, .int .i64 xk, .int .i64 xd, .string xt] 38) := ⟨_, rfl⟩
      have bA : Below wr.heap.size wr wb := by rw [hwb]; exact (Below.refl wr.heap.size wr).alloc (Nat.le_refl _) _
      have hzw : wr.heap.size < wb.heap.size := by rw [hwb]; simp
      have hcells : wb.cell? ⟨wr.heap.size, 2, none⟩ = some (.int .i64 xk) ∧ wb.cell? ⟨wr.heap.size, 3, none⟩ = some (.int .i64 xd) := by rw [hwb]; exact ⟨by simp [go_sem], by simp [go_sem]⟩
      have HX := Lib.hid hcells
      have HBA := Lib.hid bA
      have HWB := Lib.hid hwb
      clear bA hcells hwb
      have hBW : Below w.heap.size w wb := HNX.out.trans (HBA.out.mono zr)
      have HBW := Lib.hid hBW
      clear hBW
      by_cases hneg : xd < 0
      · have hq : okRow ch ⟨xi, xj, xk, xd, xt⟩ = false := by
          unfold okRow
          rw [show inR xd 0 ch.length = false from by rw [Bool.eq_false_iff]; intro h; rw [inR_iff] at h; omega]
          rfl
        have HF := Lib.hid (HBad.out hq)
        clear hq
        go_wp2_with (refine load_iRow (b := b) rfl _ rfl rfl HRg.out ?_)
        go_ret
        rw [← HWB.out]
        exact ⟨ret_bool HF.out.symm, HBW.out⟩
      by_cases hbig : (ch.length : Int) < xd
      · have hq : okRow ch ⟨xi, xj, xk, xd, xt⟩ = false := by
          unfold okRow
          rw [show inR xd 0 ch.length = false from by rw [Bool.eq_false_iff]; intro h; rw [inR_iff] at h; omega]
          rfl
        have HF := Lib.hid (HBad.out hq)
        clear hq
        go_wp2_with (refine load_iRow (b := b) rfl _ rfl rfl HRg.out ?_)
        go_ret
        rw [← HWB.out]
        exact ⟨ret_bool HF.out.symm, HBW.out⟩
      obtain ⟨d, hd⟩ : ∃ d : Nat, xd = (d : Int) := ⟨xd.toNat, by omega⟩
      subst hd
      have hdl : d ≤ ch.length := by omega
      have hin : inR (d : Int) 0 ch.length = true := by rw [inR_iff]; omega
      have hdc : (d : Int) ≤ (ca : Int) := by omega
      have hd00 : (0 : Int) ≤ (d : Int) := Int.natCast_nonneg _
      have hnx0 : ([] ++ (ch.take d).map (Value.int .i64)) ++ [.int .i64 xk] = (nx ch ⟨xi, xj, xk, (d : Int), xt⟩).map (Value.int .i64) := by unfold nx; simp
      have hnl : 0 + d + 1 = (nx ch ⟨xi, xj, xk, (d : Int), xt⟩).length := by unfold nx; rw [List.length_append, List.length_take]; simp; omega
      have HNXT := Lib.hid (And.intro hnx0 hnl)
      clear hnx0 hnl
      have hrdb := Rd.below HRD.out HBA.out
      have HCE := Lib.hid (fun W (hb : Below wb.heap.size wb W) => rd_take (Rd.below hrdb hb) d)
      have hlen : ((ch.take d).map (Value.int .i64)).length = d * 1 := by rw [List.length_map, List.length_take]; omega
      have HLEN := Lib.hid hlen
      have HONE := Lib.hid (show ∀ u ∈ (ch.take d).map (Value.int .i64), u.oneCell' = true from fun u hu => by obtain ⟨z, _, rfl⟩ := List.mem_map.mp hu; rfl)
      have HZ0 := Lib.hid (show wb.heap.size ≤ (wb.drew.alloc (.cells #[] 3)).heap.size from by simp)
      have HOA := Lib.hid (ownsI_empty wb.drew wb.heap.size (Nat.le_refl _))
      have HOB := Lib.hid (World.ownsRow.alloc HOA.out (.cells #[.int .i64 xk] 3))
      have HOC := Lib.hid (ownsI_empty (wb.drew.alloc (.cells #[.int .i64 xk] 3)) wb.heap.size (by simp))
      clear hlen hrdb
      by_cases hpos : 0 < d
      · obtain ⟨j, hj⟩ : ∃ j : Nat, d = j + 1 := ⟨d - 1, by omega⟩
        have ht : okRow ch ⟨xi, xj, xk, (d : Int), xt⟩ = allows (ch.getD j 0) xk := by
          unfold okRow top
          rw [show inR ((⟨xi, xj, xk, (d : Int), xt⟩ : RowV)).d 0 ch.length = true from hin, if_pos (by show (0 : Int) < (d : Int); omega), Bool.true_and]
          congr 2
          show ((d : Int) - 1).toNat = j
          omega
        have hjl : j < ch.length := by omega
        rcases HRD.out with h0 | ⟨bb, oo, eAd, hc'⟩
        · rw [h0] at hjl; cases hjl
        injection eAd with eAd
        subst eAd
        have hcell : wb.cell? ⟨bb, oo + j, none⟩ = some (.int .i64 (ch.getD j 0)) := (HBA.out.cell (p := ⟨bb, oo + j, none⟩) (World.block_lt_of_cell? wr _ (hc' j hjl))).trans (hc' j hjl)
        have hcell' : (wr.alloc (.cells #[.int .i64 xi, .int .i64 xj, .int .i64 xk, .int .i64 (d : Int), .string xt] 38)).cell? ⟨bb, oo + j, none⟩ = some (.int .i64 (ch.getD j 0)) := by rw [← HWB.out]; exact hcell
        clear hcell hc'
        obtain ⟨tp, htp⟩ : ∃ tp, tp = ch.getD j 0 := ⟨_, rfl⟩
        rw [← htp] at ht hcell'
        clear htp
        have hw : IntKind.i64.wrap ((d : Int) - 1) = (j : Int) := by rw [IntKind.wrap_i64]; omega
        have hp : (0 : Int) < (d : Int) := by omega
        have hj0 : (0 : Int) ≤ (j : Int) := Int.natCast_nonneg _
        have hj1 : (j : Int) < (ch.length : Int) := by omega
        clear hj
        have HAL := Lib.hid (fun w => spec_schemaAllows tp xk w)
        obtain ⟨q, hq⟩ : ∃ q, allows tp xk = q := ⟨_, rfl⟩
        rw [hq] at HAL
        have HQ := Lib.hid (ht.trans hq)
        clear ht hq hin
        cases q
        · have HF := Lib.hid (HBad.out HQ.out)
          go_wp2_with (refine load_iRow (b := b) rfl _ rfl rfl HRg.out ?_)
          refine (HAL.out _).mono ?_
          rintro e w1 ⟨rfl, rfl⟩
          go_wp2
          go_ret
          rw [← HWB.out]
          exact ⟨ret_bool HF.out.symm, HBW.out⟩
        · go_wp2_with (refine load_iRow (b := b) rfl _ rfl rfl HRg.out ?_)
          refine (HAL.out _).mono ?_
          rintro e w1 ⟨rfl, rfl⟩
          clear hcell' hw hp hj0 hj1
          rw [← HWB.out]
          go_wp2_with fail
          have hx2 := HX.out.1
          have hx3 := HX.out.2
          go_region_held3 (fun W => W.cell? ⟨wr.heap.size, 2, none⟩ = some (.int .i64 xk) ∧ W.cell? ⟨wr.heap.size, 3, none⟩ = some (.int .i64 (d : Int)) ∧ Below wb.heap.size wb W)
            (first | exact ⟨hx2, hx3, (Below.refl _ _).drew⟩ | exact keepA _ (by assumption) | exact keepG hzw (by assumption) hg2 (fun q hq => (World.ownsRow.lt hv1 q hq).1) | exact keepG hzw (by assumption) hg1 (fun q hq => by cases hq; simp))
            (first
              | (refine step_own rfl (.tmp 42) (.tmp 46) 71 rfl wb.heap.size 3 i0 (.int .i64 0) 1 8 Try.underlying71 hi hz0 hz1 hz2 rfl (by decide) (.slice (some ⟨wb.drew.heap.size, 0, none⟩) 0 0) 0 [] (by first | rfl | simp [Act.eval]) HOA.out ⟨bb, oo, none⟩ d ca ((ch.take d).map (Value.int .i64)) (by first | rfl | simp [Act.eval]) HLEN.out (HCE.out _ (And.right (And.right (by assumption)))) HONE.out (by unfold maxLen; omega) (by omega) (by simp) ?_; intro v1 w1 hv1 hg1; have hA := True.intro)
              | (refine step_own rfl (.tmp 42) (.tmp 46) 71 rfl wb.heap.size 3 i0 (.int .i64 0) 1 8 Try.underlying71 hi hz0 hz1 hz2 rfl (by decide) (.slice (some ⟨wb.drew.heap.size, 0, none⟩) 0 0) 0 [] (by first | rfl | simp [Act.eval]) HOB.out ⟨bb, oo, none⟩ d ca ((ch.take d).map (Value.int .i64)) (by first | rfl | simp [Act.eval]) HLEN.out (HCE.out _ (And.right (And.right (by assumption)))) HONE.out (by unfold maxLen; omega) (by omega) (by simp; omega) ?_; intro v1 w1 hv1 hg1; have hB := True.intro)
              | (refine step_own rfl (.tmp 42) (.tmp 46) 71 rfl wb.heap.size 3 i0 (.int .i64 0) 1 8 Try.underlying71 hi hz0 hz1 hz2 rfl (by decide) (.slice (some ⟨(wb.drew.alloc (.cells #[.int .i64 xk] 3)).heap.size, 0, none⟩) 0 0) 0 [] (by first | rfl | simp [Act.eval]) HOC.out ⟨bb, oo, none⟩ d ca ((ch.take d).map (Value.int .i64)) (by first | rfl | simp [Act.eval]) HLEN.out (HCE.out _ (And.right (And.right (by assumption)))) HONE.out (by unfold maxLen; omega) (by omega) (by simp; omega) ?_; intro v1 w1 hv1 hg1; have hC := True.intro)
              | (refine step_own rfl (.tmp 47) (.tmp 50) 71 rfl wb.heap.size 3 i0 (.int .i64 0) 1 8 Try.underlying71 hi hz0 hz1 hz2 rfl (by decide) v1 (0 + d) _ rfl (World.ownsRow.alloc hv1 _) ⟨w1.heap.size, 0, none⟩ 1 1 [.int .i64 xk] rfl rfl (newsI w1 xk) (by simp [Value.oneCell']) (by unfold maxLen; omega) (by omega) (Below.size (And.right (And.right (by assumption : _ ∧ _ ∧ Below wb.heap.size wb _)))) ?_; intro v2 w2 hv2 hg2)
              | (have hB' := hB; refine step_own rfl (.tmp 47) (.tmp 50) 71 rfl wb.heap.size 3 i0 (.int .i64 0) 1 8 Try.underlying71 hi hz0 hz1 hz2 rfl (by decide) v1 (0 + d) _ rfl hv1 ⟨(wb.drew.alloc (.cells #[] 3)).heap.size, 0, none⟩ 1 1 [.int .i64 xk] (by first | rfl | simp [Act.eval]) rfl (newsK hg1 (by simp [Value.ownBlock])) (by simp [Value.oneCell']) (by unfold maxLen; omega) (by omega) (Below.size (And.right (And.right (by assumption : _ ∧ _ ∧ Below wb.heap.size wb _)))) ?_; intro v2 w2 hv2 hg2)
              | (have hC' := hC; refine step_own rfl (.tmp 47) (.tmp 50) 71 rfl wb.heap.size 3 i0 (.int .i64 0) 1 8 Try.underlying71 hi hz0 hz1 hz2 rfl (by decide) v1 (0 + d) _ rfl hv1 ⟨wb.drew.heap.size, 0, none⟩ 1 1 [.int .i64 xk] (by first | rfl | simp [Act.eval]) rfl (newsK2 hg1 (by simp [Value.ownBlock])) (by simp [Value.oneCell']) (by unfold maxLen; omega) (by omega) (Below.size (And.right (And.right (by assumption : _ ∧ _ ∧ Below wb.heap.size wb _)))) ?_; intro v2 w2 hv2 hg2))
          all_goals
            have HV := Lib.hid hv2
            have HB := Lib.hid (And.right (And.right (by assumption : w2.cell? ⟨wr.heap.size, 2, none⟩ = some (.int .i64 xk) ∧ w2.cell? ⟨wr.heap.size, 3, none⟩ = some (.int .i64 (d : Int)) ∧ Below wb.heap.size wb w2)))
            have hzz := HBW.out.size
            have h0 := HV.out
            rw [HNXT.out.1, HNXT.out.2] at h0
            have h1 : OwnsI w2 w.heap.size v2 (nx ch ⟨xi, xj, xk, (d : Int), xt⟩) := ownsRow_lower h0 hzz
            have h2 : Below w.heap.size w w2 := HBW.out.trans (HB.out.mono hzz)
            have h3 : ∃ ad cc, v2 = .slice (some ad) (nx ch ⟨xi, xj, xk, (d : Int), xt⟩).length cc := by
              obtain ⟨ad', c', e, _, hc', _, hn'⟩ := h1.form
              cases ad' with
              | none => have := hn' rfl; have := HNXT.out.2; omega
              | some ad' => exact ⟨ad', c', e⟩
            have H123 := Lib.hid (And.intro h1 (And.intro h2 h3))
            clear hv2 hv1 hg1 hg2 h0 h1 h2 h3
            go_wp2
            go_roundw
            case rel => exact ⟨k + 1, by omega, by go_num, by rw [HCH.out]; exact H123.out.2.2, by rw [HCH.out]; exact H123.out.1, (by rw [HST.out, hok.out, HQ.out]; rfl : _ = _), H123.out.2.1⟩
            case measure => simp [intOf]; omega
      · have ht : okRow ch ⟨xi, xj, xk, (d : Int), xt⟩ = allows 0 xk := by
          unfold okRow top
          rw [show inR ((⟨xi, xj, xk, (d : Int), xt⟩ : RowV)).d 0 ch.length = true from hin, if_neg (by show ¬ (0 : Int) < (d : Int); omega), Bool.true_and]
        have HAL := Lib.hid (fun w => spec_schemaAllows 0 xk w)
        obtain ⟨q, hq⟩ : ∃ q, allows 0 xk = q := ⟨_, rfl⟩
        rw [hq] at HAL
        have HQ := Lib.hid (ht.trans hq)
        clear ht hq hin
        cases q
        · have HF := Lib.hid (HBad.out HQ.out)
          go_wp2_with (refine load_iRow (b := b) rfl _ rfl rfl HRg.out ?_)
          refine (HAL.out _).mono ?_
          rintro e w1 ⟨rfl, rfl⟩
          go_wp2
          go_ret
          rw [← HWB.out]
          exact ⟨ret_bool HF.out.symm, HBW.out⟩
        · go_wp2_with (refine load_iRow (b := b) rfl _ rfl rfl HRg.out ?_)
          refine (HAL.out _).mono ?_
          rintro e w1 ⟨rfl, rfl⟩
          skip
          rw [← HWB.out]
          go_wp2_with fail
          have hx2 := HX.out.1
          have hx3 := HX.out.2
          go_region_held3 (fun W => W.cell? ⟨wr.heap.size, 2, none⟩ = some (.int .i64 xk) ∧ W.cell? ⟨wr.heap.size, 3, none⟩ = some (.int .i64 (d : Int)) ∧ Below wb.heap.size wb W)
            (first | exact ⟨hx2, hx3, (Below.refl _ _).drew⟩ | exact keepA _ (by assumption) | exact keepG hzw (by assumption) hg2 (fun q hq => (World.ownsRow.lt hv1 q hq).1) | exact keepG hzw (by assumption) hg1 (fun q hq => by cases hq; simp))
            (first
              | (refine step_own rfl (.tmp 42) (.tmp 46) 71 rfl wb.heap.size 3 i0 (.int .i64 0) 1 8 Try.underlying71 hi hz0 hz1 hz2 rfl (by decide) (.slice (some ⟨wb.drew.heap.size, 0, none⟩) 0 0) 0 [] (by first | rfl | simp [Act.eval]) HOA.out ad d ca ((ch.take d).map (Value.int .i64)) (by first | rfl | simp [Act.eval]) HLEN.out (HCE.out _ (And.right (And.right (by assumption)))) HONE.out (by unfold maxLen; omega) (by omega) (by simp) ?_; intro v1 w1 hv1 hg1; have hA := True.intro)
              | (refine step_own rfl (.tmp 42) (.tmp 46) 71 rfl wb.heap.size 3 i0 (.int .i64 0) 1 8 Try.underlying71 hi hz0 hz1 hz2 rfl (by decide) (.slice (some ⟨wb.drew.heap.size, 0, none⟩) 0 0) 0 [] (by first | rfl | simp [Act.eval]) HOB.out ad d ca ((ch.take d).map (Value.int .i64)) (by first | rfl | simp [Act.eval]) HLEN.out (HCE.out _ (And.right (And.right (by assumption)))) HONE.out (by unfold maxLen; omega) (by omega) (by simp; omega) ?_; intro v1 w1 hv1 hg1; have hB := True.intro)
              | (refine step_own rfl (.tmp 42) (.tmp 46) 71 rfl wb.heap.size 3 i0 (.int .i64 0) 1 8 Try.underlying71 hi hz0 hz1 hz2 rfl (by decide) (.slice (some ⟨(wb.drew.alloc (.cells #[.int .i64 xk] 3)).heap.size, 0, none⟩) 0 0) 0 [] (by first | rfl | simp [Act.eval]) HOC.out ad d ca ((ch.take d).map (Value.int .i64)) (by first | rfl | simp [Act.eval]) HLEN.out (HCE.out _ (And.right (And.right (by assumption)))) HONE.out (by unfold maxLen; omega) (by omega) (by simp; omega) ?_; intro v1 w1 hv1 hg1; have hC := True.intro)
              | (refine step_own rfl (.tmp 47) (.tmp 50) 71 rfl wb.heap.size 3 i0 (.int .i64 0) 1 8 Try.underlying71 hi hz0 hz1 hz2 rfl (by decide) v1 (0 + d) _ rfl (World.ownsRow.alloc hv1 _) ⟨w1.heap.size, 0, none⟩ 1 1 [.int .i64 xk] rfl rfl (newsI w1 xk) (by simp [Value.oneCell']) (by unfold maxLen; omega) (by omega) (Below.size (And.right (And.right (by assumption : _ ∧ _ ∧ Below wb.heap.size wb _)))) ?_; intro v2 w2 hv2 hg2)
              | (have hB' := hB; refine step_own rfl (.tmp 47) (.tmp 50) 71 rfl wb.heap.size 3 i0 (.int .i64 0) 1 8 Try.underlying71 hi hz0 hz1 hz2 rfl (by decide) v1 (0 + d) _ rfl hv1 ⟨(wb.drew.alloc (.cells #[] 3)).heap.size, 0, none⟩ 1 1 [.int .i64 xk] (by first | rfl | simp [Act.eval]) rfl (newsK hg1 (by simp [Value.ownBlock])) (by simp [Value.oneCell']) (by unfold maxLen; omega) (by omega) (Below.size (And.right (And.right (by assumption : _ ∧ _ ∧ Below wb.heap.size wb _)))) ?_; intro v2 w2 hv2 hg2)
              | (have hC' := hC; refine step_own rfl (.tmp 47) (.tmp 50) 71 rfl wb.heap.size 3 i0 (.int .i64 0) 1 8 Try.underlying71 hi hz0 hz1 hz2 rfl (by decide) v1 (0 + d) _ rfl hv1 ⟨wb.drew.heap.size, 0, none⟩ 1 1 [.int .i64 xk] (by first | rfl | simp [Act.eval]) rfl (newsK2 hg1 (by simp [Value.ownBlock])) (by simp [Value.oneCell']) (by unfold maxLen; omega) (by omega) (Below.size (And.right (And.right (by assumption : _ ∧ _ ∧ Below wb.heap.size wb _)))) ?_; intro v2 w2 hv2 hg2))
          all_goals
            have HV := Lib.hid hv2
            have HB := Lib.hid (And.right (And.right (by assumption : w2.cell? ⟨wr.heap.size, 2, none⟩ = some (.int .i64 xk) ∧ w2.cell? ⟨wr.heap.size, 3, none⟩ = some (.int .i64 (d : Int)) ∧ Below wb.heap.size wb w2)))
            have hzz := HBW.out.size
            have h0 := HV.out
            rw [HNXT.out.1, HNXT.out.2] at h0
            have h1 : OwnsI w2 w.heap.size v2 (nx ch ⟨xi, xj, xk, (d : Int), xt⟩) := ownsRow_lower h0 hzz
            have h2 : Below w.heap.size w w2 := HBW.out.trans (HB.out.mono hzz)
            have h3 : ∃ ad cc, v2 = .slice (some ad) (nx ch ⟨xi, xj, xk, (d : Int), xt⟩).length cc := by
              obtain ⟨ad', c', e, _, hc', _, hn'⟩ := h1.form
              cases ad' with
              | none => have := hn' rfl; have := HNXT.out.2; omega
              | some ad' => exact ⟨ad', c', e⟩
            have H123 := Lib.hid (And.intro h1 (And.intro h2 h3))
            clear hv2 hv1 hg1 hg2 h0 h1 h2 h3
            go_wp2
            go_roundw
            case rel => exact ⟨k + 1, by omega, by go_num, by rw [HCH.out]; exact H123.out.2.2, by rw [HCH.out]; exact H123.out.1, (by rw [HST.out, hok.out, HQ.out]; rfl : _ = _), H123.out.2.1⟩
            case measure => simp [intOf]; omega
    · obtain rfl : k = xs.length := by omega
      go_wp2
      go_ret
      exact ⟨ret_bool hok.out.symm, hnx⟩

end Go.Proofs.Ytmhflifaeplalaa.VrD
