/-
  ValidRows of the program: followedBy and the walk over the rows. For slices that read as a list of at most 2^20 rows.
-/
import Derived.Test.YtmhflifaeplalaaVrA
import Derived.Outline
namespace Go.Proofs.Ytmhflifaeplalaa.VrB
open Go.RowKit Go.Proofs.Ytmhflifaeplalaa.Base Go.Proofs.Ytmhflifaeplalaa.GsA Go.Proofs.Ytmhflifaeplalaa.GwB Go.Proofs.Ytmhflifaeplalaa.St Go.Proofs.Ytmhflifaeplalaa.Vec Go.Proofs.Ytmhflifaeplalaa.Row Go.Proofs.Ytmhflifaeplalaa.RowB Go.Proofs.Ytmhflifaeplalaa.ScA Go.Proofs.Ytmhflifaeplalaa.VrA
set_option linter.unusedVariables false

set_option maxRecDepth 100000 in
set_option maxHeartbeats 2000000 in
theorem followedBy (A : Option Addr) (c : Nat) (ch : List Int) (r : RowV) (w : World) (lo : Nat) (h : OwnsI w lo (.slice A ch.length c) ch) (hd0 : 0 ≤ r.d) (hd1 : r.d ≤ ch.length) (hl : ch.length ≤ 1048576) (hlo : lo ≤ w.heap.size) :
    Calls Try.prog 50 #[.slice A ch.length c, .agg #[.int .i64 r.i, .int .i64 r.j, .int .i64 r.k, .int .i64 r.d, .string r.tx]] w fun e w' => (∃ v, e = .returned v ∧ OwnsI w' lo v (nx ch r)) ∧ Below lo w w' := by
  obtain ⟨i0, hi, hz0, hz1, hz2⟩ := info_parts infoI
  obtain ⟨d, hd⟩ : ∃ d : Nat, r.d = (d : Int) := ⟨r.d.toNat, by omega⟩
  have hdl : d ≤ ch.length := by omega
  have hform := h.form
  obtain ⟨a', c', e1, _, hc, hcm, hnone⟩ := hform
  injection e1 with e1 _ e3
  subst e1 e3
  obtain ⟨wb, hwb⟩ : ∃ wb, wb = w.alloc (.cells #[.int .i64 r.i, .int .i64 r.j, .int .i64 r.k, .int .i64 r.d, .string r.tx] 38) := ⟨_, rfl⟩
  have bb : Below w.heap.size w wb := by rw [hwb]; exact (Below.refl _ _).alloc (Nat.le_refl _) _
  have zb : lo ≤ wb.heap.size := Nat.le_trans hlo bb.size
  have htk := (h.below bb).take hdl
  have hown := World.ownsRow.alloc htk (.cells #[.int .i64 r.k] 3)
  have hcells : wb.cell? ⟨w.heap.size, 2, none⟩ = some (.int .i64 r.k) ∧ wb.cell? ⟨w.heap.size, 3, none⟩ = some (.int .i64 r.d) := by rw [hwb]; exact ⟨by simp [go_sem], by simp [go_sem]⟩
  obtain ⟨x2, x3⟩ := hcells
  have hzw : w.heap.size < wb.heap.size := by rw [hwb]; simp
  have bal := (Below.refl wb.heap.size wb).alloc (Nat.le_refl _) (.cells #[.int .i64 r.k] 3)
  have y2 := (bal.cell (p := ⟨w.heap.size, 2, none⟩) hzw).trans x2
  have y3 := (bal.cell (p := ⟨w.heap.size, 3, none⟩) hzw).trans x3
  have hnx : ((ch.take d).map (Value.int .i64)) ++ [.int .i64 r.k] = (nx ch r).map (Value.int .i64) := by unfold nx; rw [hd]; simp
  have hnl : d + 1 = (nx ch r).length := by unfold nx; rw [hd, List.length_append, List.length_take]; simp; omega
  have HNX := Lib.hid (And.intro hnx hnl)
  have HOWN := Lib.hid hown
  have HBB := Lib.hid bb
  have HWB := Lib.hid hwb
  have HTK := Lib.hid htk
  have hdc : (d : Int) ≤ (c : Int) := by omega
  have hd00 : (0 : Int) ≤ (d : Int) := Int.natCast_nonneg _
  rw [hd] at x3 y3
  clear bal
  have HD := Lib.hid hd
  have HNW := Lib.hid (newsI wb r.k)
  clear htk hown hnx hnl bb hwb hd hd0 hd1 h hc hcm
  rcases A with _ | ⟨ab, ao, asp⟩
  · have hc0 : c = 0 := hnone rfl
    subst hc0
    have hd9 : d = 0 := by omega
    subst hd9
    go_enter Try.func50, Try.ntmps50
    go_wp2_with fail
    rw [← HWB.out]
    go_region_law (refine step_own rfl (.tmp 8) (.tmp 11) 73 rfl lo 3 i0 (.int .i64 0) 1 8 Try.underlying73 hi hz0 hz1 hz2 rfl (by decide) (.slice none 0 0) 0 _ rfl HOWN.out ⟨wb.heap.size, 0, none⟩ 1 1 [.int .i64 r.k] rfl rfl HNW.out (by simp [Value.oneCell']) (by unfold maxLen; omega) (by omega) (by simp; omega) ?_; intro v' w' hv hg)
    all_goals
      have HV := Lib.hid hv
      have HB := Lib.hid (Below.grown (((HBB.out.mono hlo).alloc zb _).drew) hg (Nat.le_trans zb (by simp)) (fun k hk => (World.ownsRow.lt HTK.out k hk).1))
      clear hv hg
      go_wp2
      go_ret
      refine ⟨⟨v', rfl, ?_⟩, HB.out⟩
      have h := HV.out
      unfold OwnsI
      rw [← HNX.out.1, ← HNX.out.2]
      exact h
  · clear hnone
    go_enter Try.func50, Try.ntmps50
    go_wp2_with fail
    rw [← HWB.out]
    go_region_law (refine step_own rfl (.tmp 8) (.tmp 11) 73 rfl lo 3 i0 (.int .i64 0) 1 8 Try.underlying73 hi hz0 hz1 hz2 rfl (by decide) (.slice (some ⟨ab, ao, asp⟩) d c) d _ rfl HOWN.out ⟨wb.heap.size, 0, none⟩ 1 1 [.int .i64 r.k] rfl rfl HNW.out (by simp [Value.oneCell']) (by unfold maxLen; omega) (by omega) (by simp; omega) ?_; intro v' w' hv hg)
    all_goals
      have HV := Lib.hid hv
      have HB := Lib.hid (Below.grown (((HBB.out.mono hlo).alloc zb _).drew) hg (Nat.le_trans zb (by simp)) (fun k hk => (World.ownsRow.lt HTK.out k hk).1))
      clear hv hg
      go_wp2
      go_ret
      refine ⟨⟨v', rfl, ?_⟩, HB.out⟩
      have h := HV.out
      unfold OwnsI
      rw [← HNX.out.1, ← HNX.out.2]
      exact h

end Go.Proofs.Ytmhflifaeplalaa.VrB
