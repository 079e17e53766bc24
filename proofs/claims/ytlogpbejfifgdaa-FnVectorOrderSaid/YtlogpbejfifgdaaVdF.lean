/-
  DrawVectorLessEqual of the reader: two vectors of at most three numbers; nothing that was there is written. For every slice of bytes.
-/
import Derived.Test.YtlogpbejfifgdaaVdB
import Derived.Outline
namespace Go.Proofs.Ytlogpbejfifgdaa.VdF
open Go.RowKit Go.Proofs.Ytlogpbejfifgdaa.Base Go.Proofs.Ytlogpbejfifgdaa.St Go.Proofs.Ytlogpbejfifgdaa.Vec Go.Proofs.Ytlogpbejfifgdaa.Row Go.Proofs.Ytlogpbejfifgdaa.RowB Go.Proofs.Ytlogpbejfifgdaa.RowC Go.Proofs.Ytlogpbejfifgdaa.RdA Go.Proofs.Ytlogpbejfifgdaa.RdB Go.Proofs.Ytlogpbejfifgdaa.RdC Go.Proofs.Ytlogpbejfifgdaa.RdD Go.Proofs.Ytlogpbejfifgdaa.VdA Go.Proofs.Ytlogpbejfifgdaa.VdB
set_option linter.unusedVariables false

/-- append of all numbers of a slice to a row of the call's own. -/
theorem appendIs {ops : Array Oper} {rest : List Oper} {op : Oper} {a : Act} {w0 : World} {Q : Exit → Act → World → Prop} (hgd : op.guard = none) (s x : Operand)
    (ho : op.op = .call { callee := .builtin .append, args := #[s, x], argTypes := #[57, 57] }) {lo : Nat} {v : Value} {zs us : List Int} {b off c : Nat}
    (hs : a.eval s = v) (hx : a.eval x = .slice (some ⟨b, off, none⟩) us.length c) (hc : ∀ i, i < us.length → w0.cell? ⟨b, off + i, none⟩ = some (.int .i64 (us.getD i 0))) (hown : OwnsI w0 lo v zs) (hlen : zs.length ≤ 1048576) (hlen2 : us.length ≤ 1048576) (hlo : lo ≤ w0.heap.size)
    (k : ∀ v' w', OwnsI w' lo v' (zs ++ us) → Below lo w0 w' → lo ≤ w'.heap.size → wpList Try.prog ops Q rest (a.put op.dst v') w') :
    wpList Try.prog ops Q (op :: rest) a w0 := by
  obtain ⟨i0, hi, hz0, hz1, hz2⟩ := info_parts info_int
  refine wpList_append_own _ hgd s x 57 ho lo 3 i0 _ 1 8 Try.underlying57 hi hz0 hz1 hz2 rfl (by omega) v zs.length (zs.map (Value.int .i64)) hs hown ⟨b, off, none⟩ us.length c (us.map (Value.int .i64)) hx (by simp) ?_ ?_ ?_ ?_ ?_ ?_
  · intro j u hu
    rw [Addr.add_mid]
    rw [List.getElem?_map] at hu
    have hj : j < us.length := by
      rcases Nat.lt_or_ge j us.length with h | h
      · exact h
      · rw [List.getElem?_eq_none h] at hu; cases hu
    rw [hc j hj]
    rw [List.getElem?_eq_getElem hj] at hu
    rw [← hu, List.getD_eq_getElem?_getD, List.getElem?_eq_getElem hj]
    rfl
  · intro u hu
    rw [List.mem_map] at hu
    obtain ⟨y, _, rfl⟩ := hu
    rfl
  · unfold maxLen; omega
  · omega
  · omega
  · intro v' w' h1 h2 _
    refine k v' w' ?_ ((Below.refl lo w0).grown h2 (by omega) (fun k hk => ?_)) (Nat.le_trans hlo h2.size)
    · unfold OwnsI
      rw [List.length_append, List.map_append]
      exact h1
    · exact (World.ownsRow.lt (show w0.ownsRow lo 3 1 v zs.length (zs.map (Value.int .i64)) from hown) k hk).1

set_option maxRecDepth 100000 in
set_option maxHeartbeats 2000000 in
theorem drawLE (a : Option Addr) (cap : Nat) (xs : List Int) (w : World) (rx : RdB w a xs) (hx : xs.length ≤ cap) :
    Calls Try.prog 49 #[.slice a xs.length cap] w (DrawnVV w) := by
  have HN := Lib.hid (newReader a cap xs w rx hx)
  clear rx
  go_enter Try.func49, Try.ntmps49
  go_wp2_with fail
  refine HN.out.mono ?_
  rintro e w1 ⟨rfl, ⟨a1, c1, zs, hs⟩, b1, hz⟩
  have HA := Lib.hid (anyVector (w.heap.size + 1) w.heap.size a1 c1 0 zs w1 hs (by omega) (by omega))
  clear hs HN
  go_wp2_with fail
  refine HA.out.mono ?_
  rintro e w2 ⟨⟨A, c, us, rfl, hu, hul⟩, ⟨p, hp, hs2⟩, hw⟩
  have B2 : Below w.heap.size w w2 := b1.trans (hw.below (by omega) (Nat.le_refl _))
  have z2 := hw.size
  have HU := Lib.hid hu
  have HP := Lib.hid (pickS (w.heap.size + 1) w.heap.size a1 c1 p 2 zs w2 hs2 (by omega) (by omega) (by omega))

  clear hu hs2 HA hw b1
  go_wp2_with fail
  refine HP.out.mono ?_
  rintro e w3 ⟨⟨m, hm, rfl⟩, hs3, hw3⟩
  have z3 := hw3.size
  have HU3 := Lib.hid (VR.wr HU.out hw3 (by omega))
  have HB3 := Lib.hid (B2.trans (hw3.below (by omega) (Nat.le_refl _)))
  have HS3 := Lib.hid hs3
  have HV3 := Lib.hid (spec_validVector A c us w3 HU3.out.rd (by omega))
  have HA2 := Lib.hid (anyVector (w.heap.size + 1) w.heap.size a1 c1 (p + 1) zs w3 hs3 (by omega) (by omega))
  have HR3 := Lib.hid (Wr.refl w.heap.size w3)
  clear hs3 hw3 HP HU B2
  rcases (show m = 1 ∨ m = 0 by omega) with rfl | rfl
  · go_wp2_with fail
    refine HA2.out.mono ?_
    rintro e w4 ⟨⟨B, d, vs, rfl, hv, hvl⟩, _, hw4⟩
    have HU4 := Lib.hid (VR.rd (VR.wr HU3.out hw4 (by omega)))
    have HV4 := Lib.hid hv.rd
    have B4 : Below w.heap.size w w4 := HB3.out.trans (hw4.below (by omega) (Nat.le_refl _))
    clear hv HA2 hw4
    go_wp2
    go_ret2
    exact ⟨⟨A, c, us, B, d, vs, rfl, HU4.out, HV4.out, hul, hvl⟩, B4⟩
  · obtain ⟨ok, hok⟩ : ∃ ok, vv us = ok := ⟨_, rfl⟩
    rw [hok] at HV3
    cases ok
    · clear hok
      go_wp2_with fail
      refine HV3.out.mono ?_
      rintro e w3' ⟨rfl, rfl⟩
      go_wp2_with fail
      refine HA2.out.mono ?_
      rintro e w4 ⟨⟨B, d, vs, rfl, hv, hvl⟩, _, hw4⟩
      have HU4 := Lib.hid (VR.rd (VR.wr HU3.out hw4 (by omega)))
      have HV4 := Lib.hid hv.rd
      have B4 : Below w.heap.size w w4 := HB3.out.trans (hw4.below (by omega) (Nat.le_refl _))
      clear hv HA2 hw4
      go_wp2
      go_ret2
      exact ⟨⟨A, c, us, B, d, vs, rfl, HU4.out, HV4.out, hul, hvl⟩, B4⟩
    · have hlen : us.length = 3 := by simp [vv] at hok; exact hok.2
      have HLen := Lib.hid hlen
      have HOK := Lib.hid hok
      rcases HU3.out with h0 | ⟨b, off, rfl, hbl, hc⟩
      · rw [h0] at hlen; cases hlen
      have HC := Lib.hid hc
      have hbl3 : b < w3.heap.size := World.block_lt_of_cell? w3 _ (hc 0 (by omega))
      clear hok hlen hc HA2
      go_wp2_with fail
      refine HV3.out.mono ?_
      rintro e w3' ⟨rfl, rfl⟩
      obtain ⟨w4, hw4⟩ : ∃ w4, w4 = w3.alloc (.cells #[] 3) := ⟨_, rfl⟩
      have z4 : w3.heap.size < w4.heap.size := by rw [hw4]; simp
      have b4 : Below w3.heap.size w3 w4 := by rw [hw4]; exact (Below.refl _ _).alloc (Nat.le_refl _) _
      have HE := Lib.hid (by rw [hw4]; exact ownsI_empty w3 w3.heap.size (Nat.le_refl _) : OwnsI w4 w3.heap.size (.slice (some ⟨w3.heap.size, 0, none⟩) 0 0) [])
      have HC4 := Lib.hid (fun i (hi : i < us.length) => ((b4.cell (p := ⟨b, off + i, none⟩) (World.block_lt_of_cell? w3 _ (HC.out i hi))).trans (HC.out i hi) : w4.cell? ⟨b, off + i, none⟩ = some (.int .i64 (us.getD i 0))))
      have HB4 := Lib.hid b4
      have HW4 := Lib.hid hw4
      have hlen1 : us.length ≤ 1048576 := by omega
      have hz34 : w3.heap.size ≤ w4.heap.size := by omega
      have hnil : ([] : List Int).length ≤ 1048576 := by simp
      clear b4 hw4
      go_wp2_with ((rw [← HW4.out]); (with_reducible refine appendIs rfl _ _ rfl rfl rfl HC4.out HE.out hnil hlen1 hz34 ?_); intro v5 w5 hown5 hb5 hz5)
      rw [List.nil_append] at hown5
      obtain ⟨G, cg, rfl, hrow⟩ := owned hown5
      have HB5 := Lib.hid (HB4.out.trans hb5)
      rcases hrow with ⟨_, h0⟩ | ⟨g, rfl, hgl, ow⟩
      · exact absurd h0 (by have := HLen.out; omega)
      have HO5 := Lib.hid ow
      have HS5 := Lib.hid (HS3.out.below (HB5.out.mono (by omega)))
      have HP5 := Lib.hid (pickS (w.heap.size + 1) w.heap.size a1 c1 (p + 1) 3 zs w5 HS5.out (by omega) (by omega) (by omega))
      have HU5 := Lib.hid (VR.below HU3.out HB5.out)
      have z5 := HB5.out.size
      clear hown5 hb5 ow HC HC4 HE HB4 HW4 HS3 HS5
      go_wp2_with fail
      refine HP5.out.mono ?_
      rintro e w6 ⟨⟨k, hk, rfl⟩, _, hw6⟩
      have z6 := hw6.size
      have HO6 := Lib.hid (HO5.out.of_block (hw6.block g HO5.out.lt (by omega)))
      have HU6 := Lib.hid (VR.rd (VR.wr HU5.out hw6 (by omega)))
      have HB6 := Lib.hid ((HB3.out.trans (HB5.out.mono (by omega))).trans (hw6.below (by omega) (Nat.le_refl _)))
      have hku : k < us.length := by have := HLen.out; omega
      have ck := HO6.out.cell (i := k) hku
      have fk := HO6.out.frozen k
      have hHU := HU5.out
      clear hw6 HP5 HO5
      obtain ⟨y, hy⟩ : ∃ y, us.getD k 0 = y := ⟨_, rfl⟩
      rw [hy] at ck
      have HY := Lib.hid hy
      have hyb : 0 ≤ y ∧ y ≤ 99 := by
        rw [← hy]
        have h := HOK.out
        obtain ⟨p0, p1, p2, rfl⟩ := Go.Proofs.Ytlogpbejfifgdaa.VecD.three h
        simp [vv, inR_iff] at h
        rcases (show k = 0 ∨ k = 1 ∨ k = 2 by omega) with rfl | rfl | rfl <;> simp <;> omega
      have hk0 : (0 : Int) ≤ (k : Int) := Int.natCast_nonneg _
      have hk1 : (k : Int) < (us.length : Int) := by omega
      clear hy hk hHU
      have hgb : w.heap.size ≤ g := by omega
      have hbg : b ≠ g := by omega
      by_cases h99 : y < 99
      · have HO7 := Lib.hid (HO6.out.set k (y + 1))
        rcases HU6.out with h0 | ⟨b', off', e', hc6⟩
        · rw [h0] at hku; cases hku
        obtain ⟨rfl, rfl⟩ : b = b' ∧ off = off' := by cases e'; exact ⟨rfl, rfl⟩
        have HC6 := Lib.hid hc6
        clear hc6 e'
        go_wp2
        go_ret2
        refine ⟨⟨_, c, us, some ⟨g, 0, none⟩, cg, us.set k (y + 1), by rw [List.length_set]; rfl, .inr ⟨b, off, rfl, fun i hi => ?_⟩, .inr ⟨g, 0, rfl, fun i hi => ?_⟩, hul, by rw [List.length_set]; exact hul⟩, HB6.out.setCell hgb _⟩
        · exact (Wr.cell (Wr.set w6 g k _) (World.block_lt_of_cell? w6 _ (HC6.out i hi)) hbg).trans (HC6.out i hi)
        · rw [List.length_set] at hi
          rw [Nat.zero_add, HO7.out.cell (by exact hi)]
          by_cases e : i = k
          · subst e
            simp [List.getD_eq_getElem?_getD, hi]
          · simp [List.getD_eq_getElem?_getD, e, Ne.symm e]
      · go_wp2
        go_ret2
        exact ⟨⟨_, c, us, some ⟨g, 0, none⟩, cg, us, rfl, HU6.out, HO6.out.rd, hul, hul⟩, HB6.out⟩

end Go.Proofs.Ytlogpbejfifgdaa.VdF
