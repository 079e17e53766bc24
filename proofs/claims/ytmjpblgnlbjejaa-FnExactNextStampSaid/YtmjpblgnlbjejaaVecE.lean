/-
  Contracts of NextStamp in both packages, and the walk of the law FnExactNextStamp. For every argument; no condition.
-/
import Derived.Test.YtmjpblgnlbjejaaVecD
namespace Go.Proofs.Ytmjpblgnlbjejaa.VecE
open Go.RowKit Go.Proofs.Ytmjpblgnlbjejaa.Base Go.Proofs.Ytmjpblgnlbjejaa.St Go.Proofs.Ytmjpblgnlbjejaa.Vec Go.Proofs.Ytmjpblgnlbjejaa.Row Go.Proofs.Ytmjpblgnlbjejaa.VecA Go.Proofs.Ytmjpblgnlbjejaa.VecC Go.Proofs.Ytmjpblgnlbjejaa.VecD

def top (x y z : Int) : Int := mx (mx x y) z
set_option maxHeartbeats 2000000 in
theorem slicesMax (b off c : Nat) (x y z : Int) (w : World) (h0 : w.cell? ⟨b, off, none⟩ = some (.int .i64 x)) (h1 : w.cell? ⟨b, off + 1, none⟩ = some (.int .i64 y)) (h2 : w.cell? ⟨b, off + 2, none⟩ = some (.int .i64 z)) :
    Calls Try.prog 66 #[.slice (some ⟨b, off, none⟩) 3 c] w fun e w' => e = .returned (.int .i64 (top x y z)) ∧ w = w' := by
  unfold top
  rcases mx_cases x y with ⟨k0, e0⟩ | ⟨k0, e0⟩ <;> rw [e0] <;> clear e0
  · rcases mx_cases y z with ⟨k1, e1⟩ | ⟨k1, e1⟩ <;> rw [e1] <;> clear e1
    all_goals
      go_enter Try.func66, Try.ntmps66
      go_wp2
      refine wp_loop_rounds 3 ?_
      rw [rounds_succ]
      go_wp2
      rw [rounds_succ]
      go_wp2
      rw [rounds_succ]
      go_wp2
      go_ret
      exact ⟨rfl, rfl⟩
  · rcases mx_cases x z with ⟨k1, e1⟩ | ⟨k1, e1⟩ <;> rw [e1] <;> clear e1
    all_goals
      go_enter Try.func66, Try.ntmps66
      go_wp2
      refine wp_loop_rounds 3 ?_
      rw [rounds_succ]
      go_wp2
      rw [rounds_succ]
      go_wp2
      rw [rounds_succ]
      go_wp2
      go_ret
      exact ⟨rfl, rfl⟩

theorem largest (x y z : Int) (w : World) :
    Calls Try.prog 57 #[.agg #[.int .i64 x, .int .i64 y, .int .i64 z]] w fun e w' => e = .returned (.int .i64 (top x y z)) ∧ Below w.heap.size w w' := by
  go_enter Try.func57, Try.ntmps57
  go_wp2_with fail
  refine (slicesMax _ _ _ x y z _ (by go_simp) (by go_simp) (by go_simp)).mono ?_
  rintro e w' ⟨rfl, rfl⟩
  go_wp2
  go_ret
  exact ⟨rfl, (Below.refl _ _).alloc (Nat.le_refl _) _⟩

def nOk (zs : List Int) (who : Int) : Bool := vv zs && (inR who 0 2 && !(top (ent zs 0) (ent zs 1) (ent zs 2) == 99))
def nSeq (zs : List Int) (who : Int) : Int := if nOk zs who then top (ent zs 0) (ent zs 1) (ent zs 2) + 1 else 0
def nWho (zs : List Int) (who : Int) : Int := if nOk zs who then who else 0
theorem top_bd {zs : List Int} (h : vv zs = true) : 0 ≤ top (ent zs 0) (ent zs 1) (ent zs 2) ∧ top (ent zs 0) (ent zs 1) (ent zs 2) ≤ 99 := by
  obtain ⟨x, y, z, rfl⟩ := three h
  have hb := h
  simp [vv, inR_iff] at hb
  have e : ∀ i, ent [x, y, z] i = [x, y, z].getD i 0 := fun i => by simp [ent, h]
  simp only [e]
  show 0 ≤ top x y z ∧ top x y z ≤ 99
  unfold top
  rcases mx_cases x y with ⟨k0, e0⟩ | ⟨k0, e0⟩ <;> rw [e0]
  · rcases mx_cases y z with ⟨k1, e1⟩ | ⟨k1, e1⟩ <;> rw [e1] <;> omega
  · rcases mx_cases x z with ⟨k1, e1⟩ | ⟨k1, e1⟩ <;> rw [e1] <;> omega

set_option maxHeartbeats 1000000 in
theorem impl_NextStamp (a : Option Addr) (c : Nat) (zs : List Int) (who : Int) (w : World) (hr : Rd w a zs) (hl : zs.length ≤ 1048576) :
    Calls Try.prog 34 #[.slice a zs.length c, .int .i64 who] w fun e w' => e = .returned (.agg #[.int .i64 (nSeq zs who), .int .i64 (nWho zs who)]) ∧ Below w.heap.size w w' := by
  have hc := fun w h => vectorOf a c zs w h hl
  cases hv : vv zs
  · have e1 : nSeq zs who = 0 := by simp [nSeq, nOk, hv]
    have e2 : nWho zs who = 0 := by simp [nWho, nOk, hv]
    rw [e1, e2]
    rw [hv] at hc
    have HC := Lib.hid hc
    clear hc e1 e2 hv
    go_enter Try.func34, Try.ntmps34
    go_wp2_with fail
    refine (HC.out _ (Rd.below hr ((Below.refl _ _).alloc (Nat.le_refl _) _))).mono ?_
    rintro e w1 ⟨rfl, hb1⟩
    obtain ⟨hc1, hf1⟩ := oldCells hb1
    have hz1 : w.heap.size < w1.heap.size := by have := hb1.size; simp at this; omega
    go_wp2
    refine bodyPost_ret (v := .agg #[.int .i64 0, .int .i64 0]) (by simp [results, Try.results34, go_sem, hc1, hz1]) rfl ⟨rfl, ?_⟩
    have B1 := ((Below.refl w.heap.size w).alloc (Nat.le_refl _) _).trans (hb1.mono (by simp))
    go_grown
  · have hbd := top_bd hv
    rw [hv] at hc
    have HC := Lib.hid hc
    clear hc
    cases hw : inR who 0 2
    · have e1 : nSeq zs who = 0 := by simp [nSeq, nOk, hw]
      have e2 : nWho zs who = 0 := by simp [nWho, nOk, hw]
      rw [e1, e2]
      clear e1 e2 hv hbd
      go_enter Try.func34, Try.ntmps34
      go_wp2_with fail
      refine (HC.out _ (Rd.below hr ((Below.refl _ _).alloc (Nat.le_refl _) _))).mono ?_
      rintro e w1 ⟨rfl, hb1⟩
      obtain ⟨hc1, hf1⟩ := oldCells hb1
      have hz1 : w.heap.size < w1.heap.size := by have := hb1.size; simp at this; omega
      go_wp2_with fail
      refine (impl_isAuthor _ _).mono ?_
      rintro e w' ⟨rfl, rfl⟩
      go_wp2
      refine bodyPost_ret (v := .agg #[.int .i64 0, .int .i64 0]) (by simp [results, Try.results34, go_sem, hc1, hz1]) rfl ⟨rfl, ?_⟩
      have B1 := ((Below.refl w.heap.size w).alloc (Nat.le_refl _) _).trans (hb1.mono (by simp))
      go_grown
    · generalize ht : top (ent zs 0) (ent zs 1) (ent zs 2) = T at hbd
      have hlg := fun w => largest (ent zs 0) (ent zs 1) (ent zs 2) w
      rw [ht] at hlg
      have HLg := Lib.hid hlg
      clear hlg
      cases h9 : (T == 99)
      · have e1 : nSeq zs who = T + 1 := by simp [nSeq, nOk, hw, hv, ht, h9]
        have e2 : nWho zs who = who := by simp [nWho, nOk, hw, hv, ht, h9]
        rw [e1, e2]
        clear e1 e2 hv ht
        go_enter Try.func34, Try.ntmps34
        go_wp2_with fail
        refine (HC.out _ (Rd.below hr ((Below.refl _ _).alloc (Nat.le_refl _) _))).mono ?_
        rintro e w1 ⟨rfl, hb1⟩
        obtain ⟨hc1, hf1⟩ := oldCells hb1
        have hz1 : w.heap.size < w1.heap.size := by have := hb1.size; simp at this; omega
        have B1 := ((Below.refl w.heap.size w).alloc (Nat.le_refl _) (.cells #[.int .i64 0, .int .i64 0] 25)).trans (hb1.mono (by simp))
        go_wp2_with fail
        refine (impl_isAuthor _ _).mono ?_
        rintro e w' ⟨rfl, rfl⟩
        go_wp2_with fail
        refine (HLg.out _).mono ?_
        rintro e w2 ⟨rfl, hb2⟩
        obtain ⟨hc2, hf2⟩ := oldCells hb2
        have hz2 : w1.heap.size < w2.heap.size := by have := hb2.size; simp at this; omega
        have B2 := (B1.alloc (by omega) _).trans (hb2.mono (by simp; omega))
        go_wp2_with fail
        refine (HLg.out _).mono ?_
        rintro e w3 ⟨rfl, hb3⟩
        obtain ⟨hc3, hf3⟩ := oldCells hb3
        have hz3 := hb3.size
        have hz03 : w.heap.size < w3.heap.size := by omega
        have B3 := B2.trans (hb3.mono (by omega))
        have C3 := (((Below.refl (w.heap.size + 1) (w.alloc (.cells #[.int .i64 0, .int .i64 0] 25))).trans (hb1.mono (by simp))).alloc (by omega) (.cells #[.int .i64 (ent zs 0), .int .i64 (ent zs 1), .int .i64 (ent zs 2)] 59)).trans ((hb2.mono (by simp; omega)).trans (hb3.mono (by omega)))
        have q0 : w3.cell? ⟨w.heap.size, 0, none⟩ = some (.int .i64 0) := by rw [C3.cell (by show w.heap.size < _; omega)]; go_simp
        have q1 : w3.cell? ⟨w.heap.size, 1, none⟩ = some (.int .i64 0) := by rw [C3.cell (by show w.heap.size < _; omega)]; go_simp
        have g0 : w3.frozen? ⟨w.heap.size, 0, none⟩ = false := by rw [C3.frozen (by show w.heap.size < _; omega)]; go_simp
        have g1 : w3.frozen? ⟨w.heap.size, 1, none⟩ = false := by rw [C3.frozen (by show w.heap.size < _; omega)]; go_simp
        clear hc1 hf1 hc2 hf2 hc3 hf3
        go_wp2
        refine bodyPost_ret (v := .agg #[.int .i64 (T + 1), .int .i64 who]) (by simp [results, Try.results34, go_sem, q0, q1]) rfl ⟨rfl, ?_⟩
        go_grown
      · have e1 : nSeq zs who = 0 := by simp [nSeq, nOk, hw, hv, ht, h9]
        have e2 : nWho zs who = 0 := by simp [nWho, nOk, hw, hv, ht, h9]
        rw [e1, e2]
        clear e1 e2 hv ht
        go_enter Try.func34, Try.ntmps34
        go_wp2_with fail
        refine (HC.out _ (Rd.below hr ((Below.refl _ _).alloc (Nat.le_refl _) _))).mono ?_
        rintro e w1 ⟨rfl, hb1⟩
        obtain ⟨hc1, hf1⟩ := oldCells hb1
        have hz1 : w.heap.size < w1.heap.size := by have := hb1.size; simp at this; omega
        have B1 := ((Below.refl w.heap.size w).alloc (Nat.le_refl _) (.cells #[.int .i64 0, .int .i64 0] 25)).trans (hb1.mono (by simp))
        go_wp2_with fail
        refine (impl_isAuthor _ _).mono ?_
        rintro e w' ⟨rfl, rfl⟩
        go_wp2_with fail
        refine (HLg.out _).mono ?_
        rintro e w2 ⟨rfl, hb2⟩
        obtain ⟨hc2, hf2⟩ := oldCells hb2
        have hz2 : w1.heap.size < w2.heap.size := by have := hb2.size; simp at this; omega
        have B2 := (B1.alloc (by omega) _).trans (hb2.mono (by simp; omega))
        have hz02 : w.heap.size < w2.heap.size := by omega
        have C2 := (((Below.refl (w.heap.size + 1) (w.alloc (.cells #[.int .i64 0, .int .i64 0] 25))).trans (hb1.mono (by simp))).alloc (by omega) (.cells #[.int .i64 (ent zs 0), .int .i64 (ent zs 1), .int .i64 (ent zs 2)] 59)).trans (hb2.mono (by simp; omega))
        have q0 : w2.cell? ⟨w.heap.size, 0, none⟩ = some (.int .i64 0) := by rw [C2.cell (by show w.heap.size < _; omega)]; go_simp
        have q1 : w2.cell? ⟨w.heap.size, 1, none⟩ = some (.int .i64 0) := by rw [C2.cell (by show w.heap.size < _; omega)]; go_simp
        have g0 : w2.frozen? ⟨w.heap.size, 0, none⟩ = false := by rw [C2.frozen (by show w.heap.size < _; omega)]; go_simp
        have g1 : w2.frozen? ⟨w.heap.size, 1, none⟩ = false := by rw [C2.frozen (by show w.heap.size < _; omega)]; go_simp
        clear hc1 hf1 hc2 hf2
        go_wp2
        refine bodyPost_ret (v := .agg #[.int .i64 0, .int .i64 0]) (by simp [results, Try.results34, go_sem, q0, q1]) rfl ⟨rfl, ?_⟩
        go_grown

theorem top_zero {x y z : Int} (h : 0 ≤ x) : mx (mx (mx 0 x) y) z = top x y z := by
  have : mx 0 x = x := by unfold mx; by_cases h1 : 0 < x <;> simp [h1]; omega
  rw [this]; rfl

set_option maxHeartbeats 4000000 in
theorem spec_NextStamp (a : Option Addr) (c : Nat) (zs : List Int) (who : Int) (w : World) (hr : Rd w a zs) (hl : zs.length ≤ 1048576) :
    Calls Try.prog 33 #[.slice a zs.length c, .int .i64 who] w fun e w' => e = .returned (.agg #[.int .i64 (nSeq zs who), .int .i64 (nWho zs who)]) ∧ Below w.heap.size w w' := by
  have hc := fun w h => spec_validVector a c zs w h hl
  cases hv : vv zs
  · have e1 : nSeq zs who = 0 := by simp [nSeq, nOk, hv]
    have e2 : nWho zs who = 0 := by simp [nWho, nOk, hv]
    rw [e1, e2]
    rw [hv] at hc
    have HC := Lib.hid hc
    clear hc e1 e2 hv
    go_enter Try.func33, Try.ntmps33
    go_wp2_with fail
    refine (HC.out _ (Rd.below hr ((Below.refl _ _).alloc (Nat.le_refl _) _))).mono ?_
    rintro e w1 ⟨rfl, rfl⟩
    go_wp2
    go_returns
    refine ⟨rfl, ?_⟩
    go_grown
  · cases hw : inR who 0 2
    · have e1 : nSeq zs who = 0 := by simp [nSeq, nOk, hw]
      have e2 : nWho zs who = 0 := by simp [nWho, nOk, hw]
      rw [e1, e2]
      rw [hv] at hc
      have HC := Lib.hid hc
      clear hc e1 e2 hv
      go_enter Try.func33, Try.ntmps33
      go_wp2_with fail
      refine (HC.out _ (Rd.below hr ((Below.refl _ _).alloc (Nat.le_refl _) _))).mono ?_
      rintro e w1 ⟨rfl, rfl⟩
      go_wp2_with fail
      refine (spec_inRange _ _ _ _).mono ?_
      rintro e w' ⟨rfl, rfl⟩
      go_wp2
      go_returns
      refine ⟨rfl, ?_⟩
      go_grown
    · have hbd := top_bd hv
      obtain ⟨x, y, z, rfl⟩ := three hv
      have en : ∀ i, ent [x, y, z] i = [x, y, z].getD i 0 := fun i => by simp [ent, hv]
      have hx : 0 ≤ x := by have h := hv; simp [vv, inR_iff] at h; omega
      have et : top (ent [x, y, z] 0) (ent [x, y, z] 1) (ent [x, y, z] 2) = top x y z := by simp only [en]; rfl
      rw [et] at hbd
      have HE : Hid (nSeq [x, y, z] who = (if top x y z = 99 then 0 else top x y z + 1) ∧ nWho [x, y, z] who = (if top x y z = 99 then 0 else who)) := by
        unfold nSeq nWho nOk
        rw [et, hv, hw]
        by_cases h9 : top x y z = 99 <;> simp [Hid, h9]
      generalize hns : nSeq [x, y, z] who = ns at HE ⊢
      generalize hnw : nWho [x, y, z] who = nw at HE ⊢
      rw [hv] at hc
      have HC := Lib.hid hc
      have Hr := Lib.hid hr
      obtain ⟨b, off, rfl, p0, p1, p2⟩ := Rd.three hr
      have lb : b < w.heap.size := World.block_lt_of_cell? w _ p0
      clear hc hns hnw hv en et hr hl
      have key : ∀ t : Int, mx (mx (mx 0 x) y) z = t → Hid (ns = (if t = 99 then 0 else t + 1) ∧ nw = (if t = 99 then 0 else who)) ∧ (0 ≤ t ∧ t ≤ 99) := by
        rintro t rfl
        rw [top_zero hx]
        exact ⟨HE, hbd⟩
      have HK := Lib.hid key
      clear key HE hbd
      have fin : ∀ t : Int, Hid (mx (mx (mx 0 x) y) z = t) → Hid ((t = 99 ∧ ns = 0 ∧ nw = 0) ∨ (t < 99 ∧ 0 ≤ t ∧ ns = t + 1 ∧ nw = who)) := by
        intro t ht
        obtain ⟨k, k1, k2⟩ := HK.out t ht.out
        obtain ⟨k3, k4⟩ := k.out
        by_cases h9 : t = 99
        · exact .inl ⟨h9, by simpa [h9] using k3, by simpa [h9] using k4⟩
        · exact .inr ⟨by omega, k1, by simpa [h9] using k3, by simpa [h9] using k4⟩
      have HF := Lib.hid fin
      clear fin HK
      rcases mx_cases 0 x with ⟨k0, e0⟩ | ⟨k0, e0⟩
      all_goals
        rcases mx_cases (mx 0 x) y with ⟨k1, e1⟩ | ⟨k1, e1⟩
        all_goals
          rcases mx_cases (mx (mx 0 x) y) z with ⟨k2, e2⟩ | ⟨k2, e2⟩
          all_goals
            first | rw [e1, e0] at k2 | rw [e1] at k2
            rw [e0] at k1
            have hq := HF.out _ (Lib.hid e2)
            first | rw [e1, e0] at hq | rw [e1] at hq | skip
            clear e0 e1 e2 HF
            rcases hq.out with ⟨t9, hs9, hw9⟩ | ⟨t9, t0, hs9, hw9⟩
            all_goals try (exfalso; omega)
            all_goals
              rw [hs9, hw9]
              clear hq hs9 hw9
              go_enter Try.func33, Try.ntmps33
              go_wp2_with fail
              refine (HC.out _ (Rd.below Hr.out ((Below.refl _ _).alloc (Nat.le_refl _) _))).mono ?_
              rintro e w1 ⟨rfl, rfl⟩
              go_wp2_with fail
              refine (spec_inRange _ _ _ _).mono ?_
              rintro e w' ⟨rfl, rfl⟩
              go_wp2
              refine wp_loop_rounds 4 ?_
              rw [rounds_succ]
              go_wp2
              rw [rounds_succ]
              go_wp2
              rw [rounds_succ]
              go_wp2
              rw [rounds_succ]
              go_wp2
              go_returns
              refine ⟨rfl, ?_⟩
              go_grown

theorem eqStamp (s a t b : Int) (w : World) :
    Calls Try.prog 35 #[.agg #[.int .i64 s, .int .i64 a], .agg #[.int .i64 t, .int .i64 b]] w fun e w' => e = .returned (.bool (decide (s = t) && decide (a = b))) ∧ Below w.heap.size w w' := by
  by_cases h : s = t
  · by_cases h' : a = b
    · have hr : (decide (s = t) && decide (a = b)) = true := by simp [h, h']
      rw [hr]
      clear hr
      subst h; subst h'
      go_enter Try.func35, Try.ntmps35
      go_wp2
      go_ret
      exact ⟨rfl, ((Below.refl _ _).alloc (Nat.le_refl _) _).alloc (by simp) _⟩
    · have hr : (decide (s = t) && decide (a = b)) = false := by simp [h']
      have hne : (a != b) = true := by simp [h']
      rw [hr]
      clear hr h'
      subst h
      go_enter Try.func35, Try.ntmps35
      go_wp2
      go_ret
      exact ⟨rfl, ((Below.refl _ _).alloc (Nat.le_refl _) _).alloc (by simp) _⟩
  · have hr : (decide (s = t) && decide (a = b)) = false := by simp [h]
    have hne : (s != t) = true := by simp [h]
    rw [hr]
    clear hr h
    go_enter Try.func35, Try.ntmps35
    go_wp2
    go_ret
    exact ⟨rfl, ((Below.refl _ _).alloc (Nat.le_refl _) _).alloc (by simp) _⟩

theorem walkNextStamp (a0 : Option Addr) (len0 cap0 : Nat) (z0 : List Int) (w : World) (h0 : IsRow .i64 w a0 len0 cap0 z0) (who : Int) (_hw : (Lit.int .i64 who).wf = true) :
    Calls Try.prog 11 #[.slice a0 len0 cap0, .int .i64 who] w fun e w' => e = .returned (.bool true) ∧ Below w.heap.size w w' := by
  obtain ⟨xs, rfl, hr⟩ := isRow_rd h0
  clear h0
  by_cases hl : xs.length ≤ 1048576
  · go_enter Try.func11, Try.ntmps11
    go_wp2_with fail
    refine (toIntS _ _ xs _ hr hl).mono ?_
    rintro e w1 ⟨b1, rfl, hb1, hown1, bel1⟩
    have hz1 := bel1.size
    go_wp2_with fail
    refine (spec_NextStamp _ _ xs _ _ hown1.rd hl).mono ?_
    rintro e w2 ⟨rfl, bel2⟩
    have hz2 := bel2.size
    clear hown1
    have B2 := (bel1.trans (bel2.mono hz1)).alloc (by omega) (.cells #[.int .i64 (nSeq xs who), .int .i64 (nWho xs who)] 25)
    go_wp2_with fail
    refine (toIntS _ _ xs _ (Rd.below hr B2) hl).mono ?_
    rintro e w3 ⟨b3, rfl, hb3, hown3, bel3⟩
    obtain ⟨hc3, hf3⟩ := oldCells bel3
    have hz3 : w2.heap.size < w3.heap.size := by have := bel3.size; simp at this; omega
    have B3 := B2.trans (bel3.mono (by simp; omega))
    go_wp2_with fail
    refine (impl_NextStamp _ _ xs _ _ hown3.rd hl).mono ?_
    rintro e w4 ⟨rfl, bel4⟩
    have hown4 := hown3.below bel4
    obtain ⟨hc4, hf4⟩ := oldCells bel4
    have hz4 : w2.heap.size < w4.heap.size := by have := bel4.size; omega
    have B4 := (B3.trans (bel4.mono (by omega))).alloc (by omega) (.cells #[.int .i64 (nSeq xs who), .int .i64 (nWho xs who)] 25)
    go_wp2_with fail
    refine (eqStamp _ _ _ _ _).mono ?_
    rintro e w5 ⟨rfl, bel5⟩
    have hz5 : w4.heap.size < w5.heap.size := by have := bel5.size; simp at this; omega
    have B5 := B4.trans (bel5.mono (by simp; omega))
    have hown5 := (hown4.of_block (Below.heap_alloc w4 (.cells #[.int .i64 (nSeq xs who), .int .i64 (nWho xs who)] 25) _ hown4.lt)).below bel5
    clear hc3 hf3 hc4 hf4 hown3 hown4
    go_wp2_with fail
    refine (toIntS _ _ xs _ (Rd.below hr B5) hl).mono ?_
    rintro e w6 ⟨b6, rfl, hb6, hown6, bel6⟩
    have hz6 := bel6.size
    have hown7 := hown5.below bel6
    go_wp2_with fail
    refine (eqIntS _ _ _ _ xs xs _ hown7.rd hown6.rd hl hl).mono ?_
    rintro e w8 ⟨rfl, bel8⟩
    go_wp2
    go_ret
    exact ⟨rfl, (B5.trans (bel6.mono (by omega))).trans (bel8.mono (by omega))⟩
  · have hl' : (1048576 : Int) < (xs.length : Int) := by omega
    go_enter Try.func11, Try.ntmps11
    go_wp2
    go_ret
    exact ⟨rfl, Below.refl _ _⟩

end Go.Proofs.Ytmjpblgnlbjejaa.VecE
