/-
  equalInts of the laws, and what the laws on vectors ask: the next stamp, the order, the lattice. Slices of at most 2^20 numbers; lists with no condition.
-/
import Derived.Test.YtdiifcgalehhbaaK3
import Derived.Outline
namespace Go.Proofs.Ytdiifcgalehhbaa.VdC
open Go.RowKit Go.Proofs.Ytdiifcgalehhbaa.Base Go.Proofs.Ytdiifcgalehhbaa.St Go.Proofs.Ytdiifcgalehhbaa.StB Go.Proofs.Ytdiifcgalehhbaa.Vec Go.Proofs.Ytdiifcgalehhbaa.Row Go.Proofs.Ytdiifcgalehhbaa.RowB Go.Proofs.Ytdiifcgalehhbaa.RowC Go.Proofs.Ytdiifcgalehhbaa.VecA Go.Proofs.Ytdiifcgalehhbaa.VecC Go.Proofs.Ytdiifcgalehhbaa.VecD Go.Proofs.Ytdiifcgalehhbaa.VecE
set_option linter.unusedVariables false

theorem mx_le (x y z : Int) : mx x y ≤ z ↔ x ≤ z ∧ y ≤ z := by
  rcases mx_cases x y with ⟨h, e⟩ | ⟨h, e⟩ <;> rw [e] <;> omega
theorem ent_ok {zs : List Int} (h : vv zs = true) (i : Nat) : ent zs i = zs.getD i 0 := by simp [ent, h]
theorem top_ge {zs : List Int} (h : vv zs = true) {k : Int} (h0 : 0 ≤ k ∧ k ≤ 2) : zs.getD k.toNat 0 ≤ top (ent zs 0) (ent zs 1) (ent zs 2) := by
  have e : top (ent zs 0) (ent zs 1) (ent zs 2) ≤ top (ent zs 0) (ent zs 1) (ent zs 2) := Int.le_refl _
  generalize hT : top (ent zs 0) (ent zs 1) (ent zs 2) = T at e ⊢
  have hT' : top (ent zs 0) (ent zs 1) (ent zs 2) ≤ T := by omega
  unfold top at hT'
  rw [mx_le, mx_le, ent_ok h, ent_ok h, ent_ok h] at hT'
  obtain ⟨⟨h1, h2⟩, h3⟩ := hT'
  rcases (show k = 0 ∨ k = 1 ∨ k = 2 by omega) with rfl | rfl | rfl
  · exact h1
  · exact h2
  · exact h3
theorem vcon_vv {zs : List Int} (h : vv zs = true) (s a : Int) : vcon zs s a = true ↔ vst s a = true ∧ s ≤ zs.getD a.toNat 0 := by
  unfold vcon
  rw [h, Bool.true_and, Bool.and_eq_true, decide_eq_true_eq]
/-- What the law asks of the next stamp. -/
theorem next_law {zs : List Int} {who : Int} (h : nOk zs who = true) :
    nSeq zs who ≠ 0 ∧ nWho zs who = who ∧ vst (nSeq zs who) (nWho zs who) = true ∧ vcon zs (nSeq zs who) (nWho zs who) = false ∧ ∀ s a, vcon zs s a = true → slt s a (nSeq zs who) (nWho zs who) = true := by
  have h' := h
  unfold nOk at h'
  simp only [Bool.and_eq_true, Bool.not_eq_true', beq_eq_false_iff_ne, inR_iff] at h'
  obtain ⟨hv, hw, h9⟩ := h'
  have hb := top_bd hv
  rw [nSeq, if_pos h, nWho, if_pos h]
  have ht : ∀ k : Int, 0 ≤ k ∧ k ≤ 2 → zs.getD k.toNat 0 ≤ top (ent zs 0) (ent zs 1) (ent zs 2) := fun k hk => top_ge hv hk
  generalize top (ent zs 0) (ent zs 1) (ent zs 2) = T at hb h9 ht ⊢
  have hst : vst (T + 1) who = true := by rw [vst_iff]; omega
  refine ⟨by omega, rfl, hst, ?_, fun s a hc => ?_⟩
  · cases e : vcon zs (T + 1) who
    · rfl
    · have := ((vcon_vv hv _ _).1 e).2
      have := ht who hw
      omega
  · obtain ⟨h1, h2⟩ := (vcon_vv hv _ _).1 hc
    have := ht a ((vst_iff s a).1 h1).2
    have : s < T + 1 := by omega
    simp [slt, this]
theorem next_no {zs : List Int} {who : Int} (h : nOk zs who = false) : nSeq zs who = 0 ∧ nWho zs who = 0 := by
  rw [nSeq, if_neg (by rw [h]; exact Bool.false_ne_true), nWho, if_neg (by rw [h]; exact Bool.false_ne_true)]
  exact ⟨rfl, rfl⟩

theorem vle_iff {xs ys : List Int} (hx : vv xs = true) (hy : vv ys = true) : vle xs ys = true ↔ xs.getD 0 0 ≤ ys.getD 0 0 ∧ xs.getD 1 0 ≤ ys.getD 1 0 ∧ xs.getD 2 0 ≤ ys.getD 2 0 := by
  unfold vle le3
  rw [hx, hy, ent_ok hx, ent_ok hx, ent_ok hx, ent_ok hy, ent_ok hy, ent_ok hy]
  simp only [Bool.true_and, Bool.and_eq_true, decide_eq_true_eq]
theorem vmap_ok {m : Int → Int → Int} {xs ys : List Int} (hx : vv xs = true) (hy : vv ys = true) : vmap m xs ys = [m (xs.getD 0 0) (ys.getD 0 0), m (xs.getD 1 0) (ys.getD 1 0), m (xs.getD 2 0) (ys.getD 2 0)] := by
  unfold vmap
  rw [hx, hy, ent_ok hx, ent_ok hx, ent_ok hx, ent_ok hy, ent_ok hy, ent_ok hy]
  rfl
/-- What the law asks of the order of two vectors. -/
theorem order_law {xs ys : List Int} (hx : vv xs = true) (hy : vv ys = true) :
    decide (vmap mx xs ys = ys) = vle xs ys ∧ decide (xs = ys) = (vle xs ys && vle ys xs) ∧ ∀ s a, vle xs ys = true → vcon xs s a = true → vcon ys s a = true := by
  refine ⟨?_, ?_, fun s a h hc => ?_⟩
  · rw [vmap_ok hx hy, Bool.eq_iff_iff, vle_iff hx hy, decide_eq_true_eq]
    obtain ⟨p, q, r, rfl⟩ := three hy
    simp only [List.getD_cons_zero, List.getD_cons_succ, List.cons.injEq, and_true]
    have hm : ∀ u v : Int, mx u v = v ↔ u ≤ v := fun u v => by rcases mx_cases u v with ⟨h, e⟩ | ⟨h, e⟩ <;> rw [e] <;> omega
    rw [hm, hm, hm]
  · rw [Bool.eq_iff_iff, Bool.and_eq_true, vle_iff hx hy, vle_iff hy hx, decide_eq_true_eq]
    obtain ⟨x, y, z, rfl⟩ := three hx
    obtain ⟨p, q, r, rfl⟩ := three hy
    simp only [List.getD_cons_zero, List.getD_cons_succ, List.cons.injEq, and_true]
    omega
  · obtain ⟨h1, h2⟩ := (vcon_vv hx _ _).1 hc
    obtain ⟨g1, g2, g3⟩ := (vle_iff hx hy).1 h
    have ha := ((vst_iff s a).1 h1).2
    rw [vcon_vv hy]
    refine ⟨h1, ?_⟩
    rcases (show a = 0 ∨ a = 1 ∨ a = 2 by omega) with rfl | rfl | rfl
    · exact Int.le_trans h2 g1
    · exact Int.le_trans h2 g2
    · exact Int.le_trans h2 g3
/-- The greatest and the least of two valid vectors are valid. -/
theorem vmap_vv {m : Int → Int → Int} (hm : ∀ u v, m u v = u ∨ m u v = v) {xs ys : List Int} (hx : vv xs = true) (hy : vv ys = true) : vv (vmap m xs ys) = true := by
  rw [vmap_ok hx hy]
  obtain ⟨x, y, z, rfl⟩ := three hx
  obtain ⟨p, q, r, rfl⟩ := three hy
  simp only [vv, List.all_cons, List.all_nil, Bool.and_true, Bool.and_eq_true, inR_iff, List.getD_cons_zero, List.getD_cons_succ] at *
  have h0 := hm x p
  have h1 := hm y q
  have h2 := hm z r
  simp
  omega
theorem mx_or (u v : Int) : mx u v = u ∨ mx u v = v := by
  rcases mx_cases u v with ⟨_, e⟩ | ⟨_, e⟩ <;> rw [e] <;> simp
theorem mn_or (u v : Int) : mn u v = u ∨ mn u v = v := by
  rcases mn_cases u v with ⟨_, e⟩ | ⟨_, e⟩ <;> rw [e] <;> simp
theorem mx_comm (u v : Int) : mx u v = mx v u := by
  rcases mx_cases u v with ⟨_, e⟩ | ⟨_, e⟩ <;> rcases mx_cases v u with ⟨_, e'⟩ | ⟨_, e'⟩ <;> omega
theorem mn_comm (u v : Int) : mn u v = mn v u := by
  rcases mn_cases u v with ⟨_, e⟩ | ⟨_, e⟩ <;> rcases mn_cases v u with ⟨_, e'⟩ | ⟨_, e'⟩ <;> omega
theorem mn_mx (u v : Int) : mn u v ≤ mx u v := by
  rcases mn_cases u v with ⟨_, e⟩ | ⟨_, e⟩ <;> rcases mx_cases u v with ⟨_, e'⟩ | ⟨_, e'⟩ <;> omega
theorem getD_map {m : Int → Int → Int} {x y z p q r : Int} {a : Int} (ha : 0 ≤ a ∧ a ≤ 2) : [m x p, m y q, m z r].getD a.toNat 0 = m ([x, y, z].getD a.toNat 0) ([p, q, r].getD a.toNat 0) := by
  rcases (show a = 0 ∨ a = 1 ∨ a = 2 by omega) with rfl | rfl | rfl <;> rfl
/-- What the law asks of the lattice. -/
theorem lattice_law {xs ys : List Int} (hx : vv xs = true) (hy : vv ys = true) :
    (∀ s a, vcon (vmap mx xs ys) s a = (vcon xs s a || vcon ys s a)) ∧ (∀ s a, vcon (vmap mn xs ys) s a = (vcon xs s a && vcon ys s a)) ∧ vmap mx ys xs = vmap mx xs ys ∧ vmap mn ys xs = vmap mn xs ys ∧ vle (vmap mn xs ys) (vmap mx xs ys) = true ∧ (vmap mx xs ys).length = 3 := by
  have vx := vmap_vv mx_or hx hy
  have vn := vmap_vv mn_or hx hy
  refine ⟨fun s a => ?_, fun s a => ?_, ?_, ?_, ?_, ?_⟩
  · rw [Bool.eq_iff_iff, Bool.or_eq_true, vcon_vv vx, vcon_vv hx, vcon_vv hy, vmap_ok hx hy]
    obtain ⟨x, y, z, rfl⟩ := three hx
    obtain ⟨p, q, r, rfl⟩ := three hy
    by_cases hs : vst s a = true
    · have ha := ((vst_iff s a).1 hs).2
      simp only [hs, true_and, List.getD_cons_zero, List.getD_cons_succ]
      rw [getD_map ha]
      generalize [x, y, z].getD a.toNat 0 = u
      generalize [p, q, r].getD a.toNat 0 = v
      rcases mx_cases u v with ⟨_, e⟩ | ⟨_, e⟩ <;> rw [e] <;> omega
    · simp [hs]
  · rw [Bool.eq_iff_iff, Bool.and_eq_true, vcon_vv vn, vcon_vv hx, vcon_vv hy, vmap_ok hx hy]
    obtain ⟨x, y, z, rfl⟩ := three hx
    obtain ⟨p, q, r, rfl⟩ := three hy
    by_cases hs : vst s a = true
    · have ha := ((vst_iff s a).1 hs).2
      simp only [hs, true_and, List.getD_cons_zero, List.getD_cons_succ]
      rw [getD_map ha]
      generalize [x, y, z].getD a.toNat 0 = u
      generalize [p, q, r].getD a.toNat 0 = v
      rcases mn_cases u v with ⟨_, e⟩ | ⟨_, e⟩ <;> rw [e] <;> omega
    · simp [hs]
  · rw [vmap_ok hx hy, vmap_ok hy hx, mx_comm (ys.getD 0 0), mx_comm (ys.getD 1 0), mx_comm (ys.getD 2 0)]
  · rw [vmap_ok hx hy, vmap_ok hy hx, mn_comm (ys.getD 0 0), mn_comm (ys.getD 1 0), mn_comm (ys.getD 2 0)]
  · rw [vle_iff vn vx, vmap_ok hx hy, vmap_ok hx hy]
    exact ⟨mn_mx _ _, mn_mx _ _, mn_mx _ _⟩
  · rw [vmap_ok hx hy]
    rfl

theorem vmap_len (m : Int → Int → Int) (xs ys : List Int) : (vmap m xs ys).length ≤ 3 := by
  unfold vmap
  split <;> simp

end Go.Proofs.Ytdiifcgalehhbaa.VdC
