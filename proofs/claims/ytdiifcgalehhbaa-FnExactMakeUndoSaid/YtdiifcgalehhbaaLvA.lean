/-
  The vector of a log, what lies below a vector and above it: what the laws of LogVector and LogPrefix ask. Lists only; no condition.
-/
import Derived.Test.YtdiifcgalehhbaaK5
import Derived.Test.YtdiifcgalehhbaaLhB
import Derived.Test.YtdiifcgalehhbaaLwA
import Derived.Test.YtdiifcgalehhbaaMoA
import Derived.Test.YtdiifcgalehhbaaVdC
namespace Go.Proofs.Ytdiifcgalehhbaa.LvA
open Go.Proofs.Ytdiifcgalehhbaa.Base Go.Proofs.Ytdiifcgalehhbaa.StB Go.Proofs.Ytdiifcgalehhbaa.Vec Go.Proofs.Ytdiifcgalehhbaa.VecA Go.Proofs.Ytdiifcgalehhbaa.VecD Go.Proofs.Ytdiifcgalehhbaa.OpA Go.Proofs.Ytdiifcgalehhbaa.OpB Go.Proofs.Ytdiifcgalehhbaa.LgA Go.Proofs.Ytdiifcgalehhbaa.LgF Go.Proofs.Ytdiifcgalehhbaa.LgP Go.Proofs.Ytdiifcgalehhbaa.LgQ Go.Proofs.Ytdiifcgalehhbaa.LgW Go.Proofs.Ytdiifcgalehhbaa.LgZ Go.Proofs.Ytdiifcgalehhbaa.LhA Go.Proofs.Ytdiifcgalehhbaa.LhB Go.Proofs.Ytdiifcgalehhbaa.LiA Go.Proofs.Ytdiifcgalehhbaa.LwA Go.Proofs.Ytdiifcgalehhbaa.MoA Go.Proofs.Ytdiifcgalehhbaa.VdC
set_option linter.unusedVariables false

theorem vmx_le (os : List OpV) (x : Nat) (N : Int) (h0 : 0 ≤ N) : ∀ k, (∀ i, i < k → (os.getD i zop).j = (x : Int) → (os.getD i zop).i ≤ N) → 0 ≤ vmx os k x ∧ vmx os k x ≤ N
  | 0, _ => ⟨Int.le_refl _, h0⟩
  | k + 1, h => by
    have ih := vmx_le os x N h0 k (fun i hi => h i (by omega))
    rw [vmx]
    split
    next e => exact ⟨by omega, h k (by omega) e.1⟩
    next => exact ih
theorem vmx_ge (os : List OpV) (x : Nat) : ∀ k i, i < k → (os.getD i zop).j = (x : Int) → (os.getD i zop).i ≤ vmx os k x
  | 0, i, hi, _ => absurd hi (by omega)
  | k + 1, i, hi, e => by
    rw [vmx]
    rcases Nat.lt_or_ge i k with h | h
    · have ih := vmx_ge os x k i h e
      split
      next e2 => omega
      next => exact ih
    · obtain rfl : i = k := by omega
      split
      next => exact Int.le_refl _
      next e2 =>
        have : ¬ vmx os i x < (os.getD i zop).i := fun h => e2 ⟨e, h⟩
        omega
theorem vst_get {os : List OpV} (h : vlog os = true) {p : OpV} (hp : p ∈ os) : (1 ≤ p.i ∧ p.i ≤ 99) ∧ (0 ≤ p.j ∧ p.j ≤ 2) := by
  have h1 := ((vlog_iff os).1 h).2.1 p hp
  unfold vop at h1
  rw [Bool.and_eq_true] at h1
  exact (vst_iff _ _).1 h1.1
theorem lvec_ok {os : List OpV} (h : vlog os = true) : lvec os = [vmx os os.length 0, vmx os os.length 1, vmx os os.length 2] := by rw [lvec, if_pos h]
theorem lvec_vv {os : List OpV} (h : vlog os = true) : vv (lvec os) = true := by
  have hb : ∀ x : Nat, 0 ≤ vmx os os.length x ∧ vmx os os.length x ≤ 99 := fun x => vmx_le os x 99 (by omega) os.length (fun i hi _ => (vst_get h (getD_mem hi)).1.2)
  rw [lvec_ok h]
  have h0 := hb 0
  have h1 := hb 1
  have h2 := hb 2
  simp [vv, inR_iff]
  omega
theorem lvec_get {os : List OpV} (h : vlog os = true) {a : Int} (ha : 0 ≤ a ∧ a ≤ 2) : (lvec os).getD a.toNat 0 = vmx os os.length a.toNat := by
  rw [lvec_ok h]
  rcases (show a = 0 ∨ a = 1 ∨ a = 2 by omega) with rfl | rfl | rfl <;> rfl
/-- Each operation is contained in the vector of its log. -/
theorem lvec_con {os : List OpV} (h : vlog os = true) {p : OpV} (hp : p ∈ os) : con (lvec os) p = true := by
  have ha := (vst_get h hp).2
  unfold con
  rw [decide_eq_true_eq, lvec_get h ha]
  obtain ⟨k, hk, e⟩ := mem_getD hp
  have := vmx_ge os p.j.toNat os.length k hk (by rw [e]; omega)
  rw [e] at this
  exact this
theorem pfx_ok {os : List OpV} {zs : List Int} (h : vlog os = true) (hz : vv zs = true) : pfx os zs = os.filter (con zs) := by
  unfold pfx
  rw [h, hz]
  show keepTo (con zs) os os.length = _
  rw [keepTo_all]
theorem mis_ok {os : List OpV} {zs : List Int} (h : vlog os = true) (hz : vv zs = true) : mis os zs = os.filter (fun o => !con zs o) := by
  unfold mis
  rw [h, hz]
  show keepTo (fun o => !con zs o) os os.length = _
  rw [keepTo_all]
theorem zero_vv : vv [0, 0, 0] = true := by decide
/-- All that the law of LogVector asks of a valid log. -/
theorem vector_law {os : List OpV} (h : vlog os = true) : vv (lvec os) = true ∧ pfx os (lvec os) = os ∧ mis os (lvec os) = [] ∧ pfx os [0, 0, 0] = [] := by
  have hv := lvec_vv h
  refine ⟨hv, ?_, ?_, ?_⟩
  · rw [pfx_ok h hv, List.filter_eq_self]
    exact fun p hp => lvec_con h hp
  · rw [mis_ok h hv, List.filter_eq_nil_iff]
    intro p hp
    rw [lvec_con h hp]
    simp
  · rw [pfx_ok h zero_vv, List.filter_eq_nil_iff]
    intro p hp
    obtain ⟨h1, h2⟩ := vst_get h hp
    unfold con
    rw [decide_eq_true_eq]
    have : [(0 : Int), 0, 0].getD p.j.toNat 0 = 0 := by
      generalize p.j.toNat = k
      rcases k with _ | _ | _ | k <;> rfl
    rw [this]
    omega
/-- All that the law of LogPrefix asks of a valid log and a valid vector. -/
theorem prefix_law {os : List OpV} {zs : List Int} (h : vlog os = true) (hz : vv zs = true) :
    (∀ k, k < (pfx os zs).length → vcon zs ((pfx os zs).getD k zop).i ((pfx os zs).getD k zop).j = true) ∧ mergeT (pfx os zs) (mis os zs) = true ∧ mergeL (pfx os zs) (mis os zs) = os ∧ vle (lvec (pfx os zs)) zs = true := by
  have v1 : vlog (pfx os zs) = true := by rw [pfx_ok h hz]; exact vlog_filter _ h
  have v2 : vlog (mis os zs) = true := by rw [mis_ok h hz]; exact vlog_filter _ h
  have s0 := ((vlog_iff os).1 h).2.2
  have s1 := ((vlog_iff _).1 v1).2.2
  have s2 := ((vlog_iff _).1 v2).2.2
  have m1 : ∀ p, p ∈ pfx os zs ↔ p ∈ os ∧ con zs p = true := fun p => by rw [pfx_ok h hz, List.mem_filter]
  have m2 : ∀ p, p ∈ mis os zs ↔ p ∈ os ∧ con zs p = false := fun p => by rw [mis_ok h hz, List.mem_filter]; simp
  have hu : uni (mis os zs) (pfx os zs) = os := by
    refine srt_ext _ _ (srt_uni s1 s2) s0 fun p => ?_
    rw [mem_uni s1 s2, m1, m2]
    constructor
    · rintro (⟨hp, _⟩ | ⟨⟨hp, _⟩, _⟩) <;> exact hp
    · intro hp
      cases e : con zs p
      · refine .inr ⟨⟨hp, rfl⟩, fun q hq hs => ?_⟩
        have hq' := (m1 q).1 hq
        rw [srt_once s0 hq'.1 hp hs, e] at hq'
        cases hq'.2
      · exact .inl ⟨hp, rfl⟩
  have hl := ((vlog_iff os).1 h).1
  refine ⟨fun k hk => ?_, ?_, ?_, ?_⟩
  · have hp := (m1 _).1 (getD_mem hk)
    rw [vcon_vv hz]
    refine ⟨(vst_iff _ _).2 (vst_get h hp.1), ?_⟩
    have := hp.2
    unfold con at this
    rwa [decide_eq_true_eq] at this
  · unfold mergeT
    rw [v1, v2, hu]
    simp [hl]
  · unfold mergeL
    rw [v1, v2, hu]
    simp [hl]
  · have hb : ∀ x : Nat, x ≤ 2 → vmx (pfx os zs) (pfx os zs).length x ≤ zs.getD x 0 := fun x hx => by
      refine (vmx_le _ x (zs.getD x 0) ?_ _ (fun i hi e => ?_)).2
      · obtain ⟨a, b, c, rfl⟩ := three hz
        simp [vv, inR_iff] at hz
        rcases (show x = 0 ∨ x = 1 ∨ x = 2 by omega) with rfl | rfl | rfl <;> simp <;> omega
      · have hp := ((m1 _).1 (getD_mem hi)).2
        unfold con at hp
        rw [decide_eq_true_eq, e] at hp
        exact hp
    rw [vle_iff (lvec_vv v1) hz, lvec_ok v1]
    exact ⟨hb 0 (by omega), hb 1 (by omega), hb 2 (by omega)⟩

end Go.Proofs.Ytdiifcgalehhbaa.LvA
