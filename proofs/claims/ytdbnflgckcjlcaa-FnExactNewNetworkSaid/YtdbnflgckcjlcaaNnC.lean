/-
  The walk of the law FnExactNewNetwork: it returns true. No condition.
-/
import Derived.Test.YtdbnflgckcjlcaaNnB
namespace Go.Proofs.Ytdbnflgckcjlcaa.NnC
open Go.RowKit Go.Proofs.Ytdbnflgckcjlcaa.Base Go.Proofs.Ytdbnflgckcjlcaa.GsA Go.Proofs.Ytdbnflgckcjlcaa.GsB Go.Proofs.Ytdbnflgckcjlcaa.NnA Go.Proofs.Ytdbnflgckcjlcaa.NnB
set_option linter.unusedVariables false
attribute [local go_sem ↓] Go.wp_at_zero Go.wp_at_succ

set_option maxRecDepth 100000 in
theorem markNetwork (b c : Nat) (f : Nat → Int) (w : World) (h : OwnG ERep DRep.T w b c 3 f) :
    Calls Try.prog 21 #[.agg #[.slice (some ⟨b, 0, none⟩) 3 c, .slice none 0 0], .int .i64 1] w fun e w' => e = .returned (.int .i64 4) ∧ OwnG ERep DRep.T w' b c 3 (fun i => 1 + (i : Int)) ∧ w.grownBy w' (some b) := by
  obtain ⟨w0, hw0⟩ : ∃ w0, w0 = w.alloc (.cells #[.slice (some ⟨b, 0, none⟩) 3 c, .slice none 0 0] 38) := ⟨_, rfl⟩
  have hz : w0.heap.size = w.heap.size + 1 := by rw [hw0]; simp
  have hB : Below w.heap.size w w0 := by rw [hw0]; exact (Below.refl _ _).alloc (Nat.le_refl _) _
  have p1 : w0.cell? ⟨w.heap.size, 1, none⟩ = some (.slice none 0 0) := by rw [hw0]; simp [go_sem]
  have HM := Lib.hid (markReplicaS b c f w0 (h.below hB))
  have hlb := h.lt
  have HG := Lib.hid (fun w' (g : w0.grownBy w' (some b)) => (grown_alloc (by rw [← hw0]; exact g) : w.grownBy w' (some b)))
  have HZ := Lib.hid hz
  have HW := Lib.hid hw0
  have P1 := Lib.hid p1
  clear h hB hz hw0 p1
  go_enter Try.func21, Try.ntmps21
  go_wp2_with fail
  rw [← HW.out]
  refine HM.out.mono ?_
  rintro e w1 ⟨rfl, ho, hg⟩
  have d1 : w1.cell? ⟨w.heap.size, 1, none⟩ = some (.slice none 0 0) := by
    have e := hg.block w.heap.size (by have := HZ.out; omega) (fun e => by injection e with e; omega)
    simpa only [World.cell?, e] using P1.out
  have HO := Lib.hid ho
  have HG1 := Lib.hid (HG.out _ hg)
  clear ho hg
  go_wp2_with (go_at_call 48; refine (markPacketS0 _ _).mono ?_; rintro e w' ⟨rfl, rfl⟩)
  go_ret
  exact ⟨rfl, HO.out, HG1.out⟩

set_option maxRecDepth 100000 in
theorem heldNetwork (b c : Nat) (w : World) (h : Rows3 w b (fun i => 1 + (i : Int))) :
    Calls Try.prog 22 #[.agg #[.slice (some ⟨b, 0, none⟩) 3 c, .slice none 0 0], .int .i64 1] w fun e w' => e = .returned (.int .i64 4) ∧ Below w.heap.size w w' := by
  obtain ⟨w0, hw0⟩ : ∃ w0, w0 = w.alloc (.cells #[.slice (some ⟨b, 0, none⟩) 3 c, .slice none 0 0] 38) := ⟨_, rfl⟩
  have hB : Below w.heap.size w w0 := by rw [hw0]; exact (Below.refl _ _).alloc (Nat.le_refl _) _
  have p1 : w0.cell? ⟨w.heap.size, 1, none⟩ = some (.slice none 0 0) := by rw [hw0]; simp [go_sem]
  have HM := Lib.hid (heldReplicaS b c w0 (h.below hB))
  have HB := Lib.hid hB
  have HW := Lib.hid hw0
  clear h hB hw0
  go_enter Try.func22, Try.ntmps22
  go_wp2_with fail
  rw [← HW.out]
  refine HM.out.mono ?_
  rintro e w1 ⟨rfl, rfl⟩
  go_wp2_with (go_at_call 50; refine (heldPacketS0 _ _).mono ?_; rintro e w' ⟨rfl, rfl⟩)
  go_ret
  exact ⟨rfl, HB.out⟩

/-- A network goes into its new box. -/
theorem storeN {ops : Array Oper} {rest : List Oper} {op : Oper} {a : Act} {w : World} {Q : Exit → Act → World → Prop} (hgd : op.guard = none) (x y : Operand) (ho : op.op = .store 38 x y) {v : NwV}
    (hx : a.eval x = .pointer (some ⟨w.heap.size, 0, none⟩)) (hy : a.eval y = .agg #[.slice v.ra v.rn v.rc, .slice none 0 0])
    (K : ∀ w', BoxN w' w.heap.size v → Below w.heap.size w w' → wpList Try.prog ops Q rest (a.put op.dst undef) w') : wpList Try.prog ops Q (op :: rest) a (w.alloc (.cells #[.slice none 0 0, .slice none 0 0] 38)) := by
  have hb : BoxN (w.alloc (.cells #[.slice none 0 0, .slice none 0 0] 38)) w.heap.size zNw := box_newG w _ _ zNw rfl
  exact store_Nw (v := v) hgd x y ho hx hy (box_there hb) (K _ (box_put hb v) (below_setCells (Nat.le_refl _) _ _ _ ((Below.refl _ _).alloc (Nat.le_refl _) _)))

set_option maxRecDepth 100000 in
set_option maxHeartbeats 4000000 in
theorem walk (w : World) : Calls Try.prog 6 #[] w fun e w' => e = .returned (.bool true) ∧ Below w.heap.size w w' := by
  go_enter Try.func6, Try.ntmps6
  go_wp2_with fail
  refine (spec_NewNetwork _).mono ?_
  rintro e w1 ⟨b1, c1, rfl, hlo1, hr1, B1⟩
  have hz1 := B1.size
  have hl1 := hr1.lt
  go_wp2_with (refine storeN (v := ⟨some ⟨b1, 0, none⟩, 3, c1⟩) rfl _ _ rfl rfl rfl ?_; intro w2 hb2 B2)
  have hz2 := hb2.lt
  have hr2 := hr1.below B2
  clear hr1
  refine (impl_NewNetwork _).mono ?_
  rintro e w3 ⟨b3, c3, rfl, hlo3, hr3, B3⟩
  have hz3 := B3.size
  have hl3 := hr3.lt
  have hb23 := hb2.below B3
  have hr23 := hr2.below B3
  clear hb2 hr2
  have hB2 : Below w.heap.size w w2 := B1.trans (B2.mono hz1)
  have hB3 : Below w.heap.size w w3 := hB2.trans (B3.mono (by omega))
  go_wp2_with (first
    | (refine storeN (v := ⟨some ⟨b3, 0, none⟩, 3, c3⟩) rfl _ _ rfl rfl rfl ?_
       intro w4 hb4 B4
       have hz4 := hb4.lt
       have hb24 := hb23.below B4
       have hr24 := hr23.below B4
       have hr4 := hr3.below B4
       have HL4 := Lib.hid (box_at hb4 : w4.rangeAt w3.heap.size 0 (ENw.L ⟨some ⟨b3, 0, none⟩, 3, c3⟩))
       have HL2 := Lib.hid (box_at hb24 : w4.rangeAt w1.heap.size 0 (ENw.L ⟨some ⟨b1, 0, none⟩, 3, c1⟩))
       clear hr3 hr23 hb23)
    | (with_reducible refine load_Nw (y := ⟨some ⟨b3, 0, none⟩, 3, c3⟩) rfl _ rfl rfl HL4.out ?_)
    | (with_reducible refine load_Nw (y := ⟨some ⟨b1, 0, none⟩, 3, c1⟩) rfl _ rfl rfl HL2.out ?_))
  refine (eqNetwork b3 b1 c3 c1 _ _ (rows_own hr4) (rows_own hr24)).mono ?_
  rintro e w5 ⟨rfl, B5⟩
  have hz5 := B5.size
  have hB5 : Below w.heap.size w w5 := (hB3.trans (B4.mono (by omega))).trans (B5.mono (by omega))
  have hb45 := hb4.below B5
  have hb25 := hb24.below B5
  have hr25 := hr24.below B5
  have hr45 := hr4.below B5
  have HL4 := Lib.hid (box_at hb45 : w5.rangeAt w3.heap.size 0 (ENw.L ⟨some ⟨b3, 0, none⟩, 3, c3⟩))
  clear hb4 hb24 hr24 hr4 HL2
  go_wp2_with (first
    | (with_reducible refine load_Nw (y := ⟨some ⟨b3, 0, none⟩, 3, c3⟩) rfl _ rfl rfl HL4.out ?_))
  refine (markNetwork b3 c3 _ _ hr45).mono ?_
  rintro e w6 ⟨rfl, hm, g6⟩
  have hz6 := g6.size
  have hB6 : Below w.heap.size w w6 := hB5.grown g6 (by omega) (fun k hk => by injection hk with hk; omega)
  have hb46 := hb45.grown g6 (by intro e; injection e with e; omega)
  have hb26 := hb25.grown g6 (by intro e; injection e with e; omega)
  have hr26 := hr25.grown g6 (by intro e; injection e with e; omega)
  have HL4 := Lib.hid (box_at hb46 : w6.rangeAt w3.heap.size 0 (ENw.L ⟨some ⟨b3, 0, none⟩, 3, c3⟩))
  clear hb45 hb25 hr25 hr45
  go_wp2_with (first
    | (with_reducible refine load_Nw (y := ⟨some ⟨b3, 0, none⟩, 3, c3⟩) rfl _ rfl rfl HL4.out ?_))
  refine (heldNetwork b3 c3 _ (rows_own hm)).mono ?_
  rintro e w7 ⟨rfl, B7⟩
  have hz7 := B7.size
  have hB7 : Below w.heap.size w w7 := hB6.trans (B7.mono (by omega))
  have hb47 := hb46.below B7
  have hb27 := hb26.below B7
  have hr27 := hr26.below B7
  have hm7 := hm.below B7
  clear hb46 hb26 hr26 hm
  go_wp2_with fail
  refine (impl_NewNetwork _).mono ?_
  rintro e w8 ⟨b5, c5, rfl, hlo5, hr5, B8⟩
  have hz8 := B8.size
  have hl5 := hr5.lt
  have hB8 : Below w.heap.size w w8 := hB7.trans (B8.mono (by omega))
  have hb48 := hb47.below B8
  have hb28 := hb27.below B8
  have hr28 := hr27.below B8
  have hm8 := hm7.below B8
  clear hb47 hb27 hr27 hm7
  go_wp2_with (first
    | (refine storeN (v := ⟨some ⟨b5, 0, none⟩, 3, c5⟩) rfl _ _ rfl rfl rfl ?_
       intro w9 hb9 B9
       have hz9 := hb9.lt
       have hb49 := hb48.below B9
       have hb29 := hb28.below B9
       have hr29 := hr28.below B9
       have hr9 := hr5.below B9
       have hm9 := hm8.below B9
       have HL9 := Lib.hid (box_at hb9 : w9.rangeAt w8.heap.size 0 (ENw.L ⟨some ⟨b5, 0, none⟩, 3, c5⟩))
       have HL2 := Lib.hid (box_at hb29 : w9.rangeAt w1.heap.size 0 (ENw.L ⟨some ⟨b1, 0, none⟩, 3, c1⟩))
       clear hr5 hr28 hb28 hb48 hm8)
    | (with_reducible refine load_Nw (y := ⟨some ⟨b5, 0, none⟩, 3, c5⟩) rfl _ rfl rfl HL9.out ?_)
    | (with_reducible refine load_Nw (y := ⟨some ⟨b1, 0, none⟩, 3, c1⟩) rfl _ rfl rfl HL2.out ?_))
  refine (eqNetwork b5 b1 c5 c1 _ _ (rows_own hr9) (rows_own hr29)).mono ?_
  rintro e w10 ⟨rfl, B10⟩
  have hz10 := B10.size
  have hB10 : Below w.heap.size w w10 := (hB8.trans (B9.mono (by omega))).trans (B10.mono (by omega))
  have hb410 := hb49.below B10
  have hm10 := hm9.below B10
  have HL4 := Lib.hid (box_at hb410 : w10.rangeAt w3.heap.size 0 (ENw.L ⟨some ⟨b3, 0, none⟩, 3, c3⟩))
  clear hb49 hb29 hr29 hr9 hm9 HL9 HL2
  go_wp2_with (first
    | (with_reducible refine load_Nw (y := ⟨some ⟨b3, 0, none⟩, 3, c3⟩) rfl _ rfl rfl HL4.out ?_))
  refine (heldNetwork b3 c3 _ (rows_own hm10)).mono ?_
  rintro e w11 ⟨rfl, B11⟩
  have hB11 : Below w.heap.size w w11 := hB10.trans (B11.mono (by omega))
  go_wp2
  go_ret
  exact ⟨rfl, hB11⟩

end Go.Proofs.Ytdbnflgckcjlcaa.NnC
