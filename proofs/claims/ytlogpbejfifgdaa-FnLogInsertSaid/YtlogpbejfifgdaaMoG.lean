/-
  anyOp of the reader: it gives some operation with a short text, and writes nothing that was there but the reader. For every reader whose position is at most 200000.
-/
import Derived.Test.YtlogpbejfifgdaaRfB
import Derived.Test.YtlogpbejfifgdaaK3
import Derived.Outline
namespace Go.Proofs.Ytlogpbejfifgdaa.MoG
open Go.RowKit Go.Proofs.Ytlogpbejfifgdaa.Base Go.Proofs.Ytlogpbejfifgdaa.St Go.Proofs.Ytlogpbejfifgdaa.Vec Go.Proofs.Ytlogpbejfifgdaa.VecE Go.Proofs.Ytlogpbejfifgdaa.Row Go.Proofs.Ytlogpbejfifgdaa.RowB Go.Proofs.Ytlogpbejfifgdaa.OpA Go.Proofs.Ytlogpbejfifgdaa.OpB Go.Proofs.Ytlogpbejfifgdaa.LgA Go.Proofs.Ytlogpbejfifgdaa.LgB Go.Proofs.Ytlogpbejfifgdaa.LgC Go.Proofs.Ytlogpbejfifgdaa.LgF Go.Proofs.Ytlogpbejfifgdaa.LgN Go.Proofs.Ytlogpbejfifgdaa.LgP Go.Proofs.Ytlogpbejfifgdaa.LgW Go.Proofs.Ytlogpbejfifgdaa.LgZ Go.Proofs.Ytlogpbejfifgdaa.LhA Go.Proofs.Ytlogpbejfifgdaa.RdA Go.Proofs.Ytlogpbejfifgdaa.RdB Go.Proofs.Ytlogpbejfifgdaa.RdC Go.Proofs.Ytlogpbejfifgdaa.RgB Go.Proofs.Ytlogpbejfifgdaa.RgC Go.Proofs.Ytlogpbejfifgdaa.RgD Go.Proofs.Ytlogpbejfifgdaa.ReA Go.Proofs.Ytlogpbejfifgdaa.ReB Go.Proofs.Ytlogpbejfifgdaa.RfA Go.Proofs.Ytlogpbejfifgdaa.RfB
set_option linter.unusedVariables false

theorem rowO_wr {R lo : Nat} {w w' : World} {a : Option Addr} {c n : Nat} {f : Nat → OpV} (h : RowO lo w a c n f) (hw : Wr R w w') (hR : R < lo) : RowO lo w' a c n f := by
  rcases h with h | ⟨b, ha, hl, h⟩
  · exact .inl h
  · exact .inr ⟨b, ha, hl, h.of_block (hw.block b h.lt (by omega))⟩
theorem rowF_wr {R lo : Nat} {w w' : World} {a : Option Addr} {c n : Nat} {f : Nat → Int} (h : RowF lo w a c n f) (hw : Wr R w w') (hR : R < lo) : RowF lo w' a c n f := by
  rcases h with h | ⟨b, ha, hl, h⟩
  · exact .inl h
  · exact .inr ⟨b, ha, hl, h.of_block (hw.block b h.lt (by omega))⟩
theorem nsStamp (X : Ctx) (P : Nat) (w : World) (h : NS X P w) (hp : P ≤ 900000) :
    Calls Try.prog 92 #[.pointer (some ⟨X.R, 0, none⟩)] w fun e w' => (∃ s t : Int, e = .returned (.agg #[.int .i64 s, .int .i64 t])) ∧ NS X (P + 3) w' := by
  obtain ⟨p, hp1, hs⟩ := h.rs
  exact (anyStamp X.n X.R X.a X.cap p X.zs w hs (by omega) h.size).mono fun e w' ⟨he, ⟨p', hp', hs'⟩, hw⟩ => ⟨he, h.step hw ⟨p', by omega, hs'⟩⟩

set_option maxRecDepth 200000 in
set_option maxHeartbeats 8000000 in
theorem anyOp (n R : Nat) (a : Option Addr) (cap p : Nat) (zs : List Int) (w : World) (h : RS n w R a cap p zs) (hp : p ≤ 200000) (hn : n ≤ w.heap.size) :
    Calls Try.prog 61 #[.pointer (some ⟨R, 0, none⟩)] w (Edit n R a cap (p + 1030) zs w) := by
  have hR : R < n := h.2.1
  have B0 := Lib.hid ((Below.refl w.heap.size w).alloc (Nat.le_refl _) (.cells #[.int .i64 0, .int .i64 0, .int .i64 0, .int .i64 0, .int .i64 0, .int .i64 0, .int .i64 0, .int .i64 0, .int .i64 0, .int .i64 0, .bool false, .string ByteArray.empty] 27))
  have X0 := Lib.hid (box_new w zop)
  have HS := Lib.hid h
  clear h
  go_enter Try.func61, Try.ntmps61
  go_wp2_with fail
  refine (randomLog n R a cap p zs _ (HS.out.below (B0.out.mono hn)) hp (by simp; omega)).mono ?_
  rintro e w1 ⟨⟨v, os, rfl, hown, hf⟩, ⟨p1, hp1, hs1⟩, hw1⟩
  obtain ⟨A, c, rfl, hrow⟩ := ownedO hown
  have hlen : os.length ≤ 28 := hf.1
  have z1 : w.heap.size + 1 ≤ w1.heap.size := by have := hw1.size; simp at this; omega
  have HK1 := Lib.hid (show Box w1 w.heap.size zop from Box.wr X0.out hw1 (by omega))
  have HW1 := Lib.hid (show Wr R w w1 from (Wr.of_below B0.out).trans hw1)
  have HRow := Lib.hid hrow
  have HF := Lib.hid hf.2.1
  have HS1 := Lib.hid hs1
  clear hown hf hs1 hw1 hrow X0 HS
  go_wp2_with fail
  refine (nextEdit n R a cap p1 zs _ HS1.out (by omega) (by omega) A c os HRow.out.rd (by omega)).mono ?_
  rintro e w2 ⟨⟨o, rfl, ho⟩, ⟨p2, hp2, hs2⟩, hw2⟩
  have z2 := hw2.size
  obtain ⟨wb, hwb⟩ : ∃ wb, wb = w2.alloc (.cells #[.int .i64 o.i, .int .i64 o.j, .int .i64 o.k, .int .i64 o.ts, .int .i64 o.ta, .int .i64 o.fs, .int .i64 o.fa, .int .i64 o.ns, .int .i64 o.na, .int .i64 o.v, .bool o.en, .string o.tx] 27) := ⟨_, rfl⟩
  have bxb : Box wb w2.heap.size o := by rw [hwb]; exact box_new w2 o
  have bb : Below w2.heap.size w2 wb := by rw [hwb]; exact (Below.refl _ _).alloc (Nat.le_refl _) _
  have zb : wb.heap.size = w2.heap.size + 1 := by rw [hwb]; simp
  have HRd := Lib.hid ((rowO_wr HRow.out hw2 (by simp; omega)).rd.below bb)
  have HKb := Lib.hid (Box.wr (HK1.out.wr hw2 (by omega)) (.of_below (R := R) bb) (by omega))
  have HWb := Lib.hid ((HW1.out.trans hw2).trans (.of_below bb))
  have HSb := Lib.hid (hs2.below (bb.mono (by omega)))
  have HXb := Lib.hid bxb
  have HWB := Lib.hid hwb
  clear hs2 hw2 bxb bb hwb HK1 HW1 HRow HS1
  go_wp2_with fail
  rw [← HWB.out]
  refine (spec_logVector A c os _ HRd.out (by omega) HF.out).mono ?_
  rintro e w5 ⟨a5, c5, rfl, row5, b5⟩
  have z5 := b5.size
  have HS5 := Lib.hid (HSb.out.below (b5.mono (by omega)))
  have HX5 := Lib.hid (HXb.out.wr (.of_below (R := R) b5) (by omega))
  have HK5 := Lib.hid (HKb.out.wr (.of_below (R := R) b5) (by omega))
  have HW5 := Lib.hid (HWb.out.trans (.of_below b5))
  have HR5 := Lib.hid row5
  clear row5 b5 HSb HXb HKb HWb HRd HF
  go_wp2_with fail
  refine (pickS n R a cap p2 3 zs _ HS5.out (by omega) (by omega) (by omega)).mono ?_
  rintro e w6 ⟨⟨k, hk, rfl⟩, hs6, hw6⟩
  have z6 := hw6.size
  have HR6 := Lib.hid (rowF_wr HR5.out hw6 (by omega)).rd
  have HX6 := Lib.hid (HX5.out.wr hw6 (by omega))
  have HK6 := Lib.hid (HK5.out.wr hw6 (by omega))
  have HW6 := Lib.hid (HW5.out.trans hw6)
  have HS6 := Lib.hid hs6
  clear hs6 hw6 HS5 HX5 HK5 HW5 HR5
  go_wp2_with fail
  refine (spec_NextStamp a5 c5 _ (k : Int) _ HR6.out (by simp)).mono ?_
  rintro e w7 ⟨rfl, b7⟩
  generalize nSeq _ _ = si
  generalize nWho _ _ = sj
  have z7 := b7.size
  have ns : NS ⟨n, R, a, cap, zs, none, [], w.heap.size, w2.heap.size, w.heap.size, w.heap.size, 0, 0, 0, 0, w⟩ (p + 1021) w7 := by
    have K7 : Box w7 w.heap.size zop := HK6.out.wr (.of_below (R := R) b7) (by omega)
    have hc := c12 K7.range
    have hb : Bx w.heap.size 0 0 w7 := ⟨K7.lt, hc.1, hc.2.1⟩
    exact { ok := ⟨hn, hR, Nat.le_refl _, by show w.heap.size ≤ w2.heap.size; omega, Nat.le_refl _, Nat.le_refl _, by show w.heap.size ≠ w2.heap.size; omega, by show w.heap.size ≠ w2.heap.size; omega, by show w.heap.size ≠ w2.heap.size; omega, fun h => absurd rfl h, by simp⟩,
            rs := ⟨p2 + 1, by omega, HS6.out.below (b7.mono (by show n ≤ w6.heap.size; omega))⟩, o := ⟨o, HX6.out.wr (.of_below (R := R) b7) (by omega), ho⟩, r := K7, b := hb, c := hb, l := .inl rfl, wr := HW6.out.trans (.of_below b7) }
  have NS0 := Lib.hid ns
  clear ns b7 HR6 HX6 HK6 HW6 HS6 HWB B0
  have ns := NS0.out
  go_wp2_with (refine nsSt (X := ⟨n, R, a, cap, zs, none, [], w.heap.size, w2.heap.size, w.heap.size, w.heap.size, 0, 0, 0, 0, w⟩) rfl _ _ rfl rfl rfl (by decide) (by assumption) ?_; clear ns; intro wn nsn)
  refine (nsPick ⟨n, R, a, cap, zs, none, [], w.heap.size, w2.heap.size, w.heap.size, w.heap.size, 0, 0, 0, 0, w⟩ _ 14 _ nsn (by omega) (by omega) (by omega)).mono ?_
  rintro e w8 ⟨⟨m, hm, rfl⟩, ns⟩
  clear nsn NS0
  have hx8 : (⟨#[120]⟩ : ByteArray).size ≤ 8 := by decide
  rcases (show m = 0 ∨ m = 1 ∨ m = 2 ∨ m = 3 ∨ m = 4 ∨ 5 ≤ m by omega) with rfl | rfl | rfl | rfl | rfl | h5
  · go_wp2_with (first
      | (refine nsInt (X := ⟨n, R, a, cap, zs, none, [], w.heap.size, w2.heap.size, w.heap.size, w.heap.size, 0, 0, 0, 0, w⟩) rfl _ _ rfl rfl rfl (by decide) (by assumption) ?_; intro wn nsn)
      | (refine nsSt (X := ⟨n, R, a, cap, zs, none, [], w.heap.size, w2.heap.size, w.heap.size, w.heap.size, 0, 0, 0, 0, w⟩) rfl _ _ rfl rfl rfl (by decide) (by assumption) ?_; intro wn nsn)
      | (refine nsBool (X := ⟨n, R, a, cap, zs, none, [], w.heap.size, w2.heap.size, w.heap.size, w.heap.size, 0, 0, 0, 0, w⟩) rfl _ _ rfl rfl rfl (by assumption) ?_; intro wn nsn)
      | (refine nsStr (X := ⟨n, R, a, cap, zs, none, [], w.heap.size, w2.heap.size, w.heap.size, w.heap.size, 0, 0, 0, 0, w⟩) rfl _ _ rfl rfl rfl (by assumption) (by assumption) ?_; intro wn nsn)
      | (refine nsLoad (X := ⟨n, R, a, cap, zs, none, [], w.heap.size, w2.heap.size, w.heap.size, w.heap.size, 0, 0, 0, 0, w⟩) rfl _ rfl rfl (by assumption) ?_; intro oo ht)
      | (refine nsRes (X := ⟨n, R, a, cap, zs, none, [], w.heap.size, w2.heap.size, w.heap.size, w.heap.size, 0, 0, 0, 0, w⟩) (o := oo) rfl _ _ rfl rfl rfl (by assumption) ?_; intro wf Cf Ef)
      | (go_at_call 92; refine (nsStamp ⟨n, R, a, cap, zs, none, [], w.heap.size, w2.heap.size, w.heap.size, w.heap.size, 0, 0, 0, 0, w⟩ _ _ (by assumption) (by omega)).mono ?_; rintro e wn ⟨⟨x, y, rfl⟩, nsn⟩)
      | (go_at_call 100; refine (nsOne ⟨n, R, a, cap, zs, none, [], w.heap.size, w2.heap.size, w.heap.size, w.heap.size, 0, 0, 0, 0, w⟩ _ _ _ _ _ (by assumption) (by omega) (by decide) (by decide) (by first | exact ints [0, 11, 2, 10] | exact ints [-1, 5, 31, 0])).mono ?_; rintro e wn ⟨⟨x, rfl⟩, nsn⟩))
    all_goals (obtain ⟨d0, d1, d2, d3, d4, d5, d6, d7, d8, d9, d10, d11⟩ := Cf; exact bodyPost_ret (v := .agg #[.int .i64 oo.i, .int .i64 oo.j, .int .i64 oo.k, .int .i64 oo.ts, .int .i64 oo.ta, .int .i64 oo.fs, .int .i64 oo.fa, .int .i64 oo.ns, .int .i64 oo.na, .int .i64 oo.v, .bool oo.en, .string oo.tx]) (by simp [results, Try.results61, go_sem, d0, d1, d2, d3, d4, d5, d6, d7, d8, d9, d10, d11]) rfl ⟨⟨oo, rfl, ht⟩, fin Ef (by omega)⟩)
  · go_wp2_with (first
      | (refine nsInt (X := ⟨n, R, a, cap, zs, none, [], w.heap.size, w2.heap.size, w.heap.size, w.heap.size, 0, 0, 0, 0, w⟩) rfl _ _ rfl rfl rfl (by decide) (by assumption) ?_; intro wn nsn)
      | (refine nsSt (X := ⟨n, R, a, cap, zs, none, [], w.heap.size, w2.heap.size, w.heap.size, w.heap.size, 0, 0, 0, 0, w⟩) rfl _ _ rfl rfl rfl (by decide) (by assumption) ?_; intro wn nsn)
      | (refine nsBool (X := ⟨n, R, a, cap, zs, none, [], w.heap.size, w2.heap.size, w.heap.size, w.heap.size, 0, 0, 0, 0, w⟩) rfl _ _ rfl rfl rfl (by assumption) ?_; intro wn nsn)
      | (refine nsStr (X := ⟨n, R, a, cap, zs, none, [], w.heap.size, w2.heap.size, w.heap.size, w.heap.size, 0, 0, 0, 0, w⟩) rfl _ _ rfl rfl rfl (by assumption) (by assumption) ?_; intro wn nsn)
      | (refine nsLoad (X := ⟨n, R, a, cap, zs, none, [], w.heap.size, w2.heap.size, w.heap.size, w.heap.size, 0, 0, 0, 0, w⟩) rfl _ rfl rfl (by assumption) ?_; intro oo ht)
      | (refine nsRes (X := ⟨n, R, a, cap, zs, none, [], w.heap.size, w2.heap.size, w.heap.size, w.heap.size, 0, 0, 0, 0, w⟩) (o := oo) rfl _ _ rfl rfl rfl (by assumption) ?_; intro wf Cf Ef)
      | (go_at_call 92; refine (nsStamp ⟨n, R, a, cap, zs, none, [], w.heap.size, w2.heap.size, w.heap.size, w.heap.size, 0, 0, 0, 0, w⟩ _ _ (by assumption) (by omega)).mono ?_; rintro e wn ⟨⟨x, y, rfl⟩, nsn⟩)
      | (go_at_call 100; refine (nsOne ⟨n, R, a, cap, zs, none, [], w.heap.size, w2.heap.size, w.heap.size, w.heap.size, 0, 0, 0, 0, w⟩ _ _ _ _ _ (by assumption) (by omega) (by decide) (by decide) (by first | exact ints [0, 11, 2, 10] | exact ints [-1, 5, 31, 0])).mono ?_; rintro e wn ⟨⟨x, rfl⟩, nsn⟩))
    all_goals (obtain ⟨d0, d1, d2, d3, d4, d5, d6, d7, d8, d9, d10, d11⟩ := Cf; exact bodyPost_ret (v := .agg #[.int .i64 oo.i, .int .i64 oo.j, .int .i64 oo.k, .int .i64 oo.ts, .int .i64 oo.ta, .int .i64 oo.fs, .int .i64 oo.fa, .int .i64 oo.ns, .int .i64 oo.na, .int .i64 oo.v, .bool oo.en, .string oo.tx]) (by simp [results, Try.results61, go_sem, d0, d1, d2, d3, d4, d5, d6, d7, d8, d9, d10, d11]) rfl ⟨⟨oo, rfl, ht⟩, fin Ef (by omega)⟩)
  · go_wp2_with (first
      | (refine nsInt (X := ⟨n, R, a, cap, zs, none, [], w.heap.size, w2.heap.size, w.heap.size, w.heap.size, 0, 0, 0, 0, w⟩) rfl _ _ rfl rfl rfl (by decide) (by assumption) ?_; intro wn nsn)
      | (refine nsSt (X := ⟨n, R, a, cap, zs, none, [], w.heap.size, w2.heap.size, w.heap.size, w.heap.size, 0, 0, 0, 0, w⟩) rfl _ _ rfl rfl rfl (by decide) (by assumption) ?_; intro wn nsn)
      | (refine nsBool (X := ⟨n, R, a, cap, zs, none, [], w.heap.size, w2.heap.size, w.heap.size, w.heap.size, 0, 0, 0, 0, w⟩) rfl _ _ rfl rfl rfl (by assumption) ?_; intro wn nsn)
      | (refine nsStr (X := ⟨n, R, a, cap, zs, none, [], w.heap.size, w2.heap.size, w.heap.size, w.heap.size, 0, 0, 0, 0, w⟩) rfl _ _ rfl rfl rfl (by assumption) (by assumption) ?_; intro wn nsn)
      | (refine nsLoad (X := ⟨n, R, a, cap, zs, none, [], w.heap.size, w2.heap.size, w.heap.size, w.heap.size, 0, 0, 0, 0, w⟩) rfl _ rfl rfl (by assumption) ?_; intro oo ht)
      | (refine nsRes (X := ⟨n, R, a, cap, zs, none, [], w.heap.size, w2.heap.size, w.heap.size, w.heap.size, 0, 0, 0, 0, w⟩) (o := oo) rfl _ _ rfl rfl rfl (by assumption) ?_; intro wf Cf Ef)
      | (go_at_call 92; refine (nsStamp ⟨n, R, a, cap, zs, none, [], w.heap.size, w2.heap.size, w.heap.size, w.heap.size, 0, 0, 0, 0, w⟩ _ _ (by assumption) (by omega)).mono ?_; rintro e wn ⟨⟨x, y, rfl⟩, nsn⟩)
      | (go_at_call 100; refine (nsOne ⟨n, R, a, cap, zs, none, [], w.heap.size, w2.heap.size, w.heap.size, w.heap.size, 0, 0, 0, 0, w⟩ _ _ _ _ _ (by assumption) (by omega) (by decide) (by decide) (by first | exact ints [0, 11, 2, 10] | exact ints [-1, 5, 31, 0])).mono ?_; rintro e wn ⟨⟨x, rfl⟩, nsn⟩))
    all_goals (obtain ⟨d0, d1, d2, d3, d4, d5, d6, d7, d8, d9, d10, d11⟩ := Cf; exact bodyPost_ret (v := .agg #[.int .i64 oo.i, .int .i64 oo.j, .int .i64 oo.k, .int .i64 oo.ts, .int .i64 oo.ta, .int .i64 oo.fs, .int .i64 oo.fa, .int .i64 oo.ns, .int .i64 oo.na, .int .i64 oo.v, .bool oo.en, .string oo.tx]) (by simp [results, Try.results61, go_sem, d0, d1, d2, d3, d4, d5, d6, d7, d8, d9, d10, d11]) rfl ⟨⟨oo, rfl, ht⟩, fin Ef (by omega)⟩)
  · go_wp2_with (first
      | (refine nsInt (X := ⟨n, R, a, cap, zs, none, [], w.heap.size, w2.heap.size, w.heap.size, w.heap.size, 0, 0, 0, 0, w⟩) rfl _ _ rfl rfl rfl (by decide) (by assumption) ?_; intro wn nsn)
      | (refine nsSt (X := ⟨n, R, a, cap, zs, none, [], w.heap.size, w2.heap.size, w.heap.size, w.heap.size, 0, 0, 0, 0, w⟩) rfl _ _ rfl rfl rfl (by decide) (by assumption) ?_; intro wn nsn)
      | (refine nsBool (X := ⟨n, R, a, cap, zs, none, [], w.heap.size, w2.heap.size, w.heap.size, w.heap.size, 0, 0, 0, 0, w⟩) rfl _ _ rfl rfl rfl (by assumption) ?_; intro wn nsn)
      | (refine nsStr (X := ⟨n, R, a, cap, zs, none, [], w.heap.size, w2.heap.size, w.heap.size, w.heap.size, 0, 0, 0, 0, w⟩) rfl _ _ rfl rfl rfl (by assumption) (by assumption) ?_; intro wn nsn)
      | (refine nsLoad (X := ⟨n, R, a, cap, zs, none, [], w.heap.size, w2.heap.size, w.heap.size, w.heap.size, 0, 0, 0, 0, w⟩) rfl _ rfl rfl (by assumption) ?_; intro oo ht)
      | (refine nsRes (X := ⟨n, R, a, cap, zs, none, [], w.heap.size, w2.heap.size, w.heap.size, w.heap.size, 0, 0, 0, 0, w⟩) (o := oo) rfl _ _ rfl rfl rfl (by assumption) ?_; intro wf Cf Ef)
      | (go_at_call 92; refine (nsStamp ⟨n, R, a, cap, zs, none, [], w.heap.size, w2.heap.size, w.heap.size, w.heap.size, 0, 0, 0, 0, w⟩ _ _ (by assumption) (by omega)).mono ?_; rintro e wn ⟨⟨x, y, rfl⟩, nsn⟩)
      | (go_at_call 100; refine (nsOne ⟨n, R, a, cap, zs, none, [], w.heap.size, w2.heap.size, w.heap.size, w.heap.size, 0, 0, 0, 0, w⟩ _ _ _ _ _ (by assumption) (by omega) (by decide) (by decide) (by first | exact ints [0, 11, 2, 10] | exact ints [-1, 5, 31, 0])).mono ?_; rintro e wn ⟨⟨x, rfl⟩, nsn⟩))
    all_goals (obtain ⟨d0, d1, d2, d3, d4, d5, d6, d7, d8, d9, d10, d11⟩ := Cf; exact bodyPost_ret (v := .agg #[.int .i64 oo.i, .int .i64 oo.j, .int .i64 oo.k, .int .i64 oo.ts, .int .i64 oo.ta, .int .i64 oo.fs, .int .i64 oo.fa, .int .i64 oo.ns, .int .i64 oo.na, .int .i64 oo.v, .bool oo.en, .string oo.tx]) (by simp [results, Try.results61, go_sem, d0, d1, d2, d3, d4, d5, d6, d7, d8, d9, d10, d11]) rfl ⟨⟨oo, rfl, ht⟩, fin Ef (by omega)⟩)
  · obtain ⟨ob, hbx, _⟩ := NS.o ns
    obtain ⟨_, _, _, _, _, _, _, _, _, _, x10, _⟩ := c12 (Box.range hbx)
    have f10 := OwnO.frozen hbx (0 * 12 + 10)
    go_wp2_with (first
      | (refine nsInt (X := ⟨n, R, a, cap, zs, none, [], w.heap.size, w2.heap.size, w.heap.size, w.heap.size, 0, 0, 0, 0, w⟩) rfl _ _ rfl rfl rfl (by decide) (by assumption) ?_; intro wn nsn)
      | (refine nsSt (X := ⟨n, R, a, cap, zs, none, [], w.heap.size, w2.heap.size, w.heap.size, w.heap.size, 0, 0, 0, 0, w⟩) rfl _ _ rfl rfl rfl (by decide) (by assumption) ?_; intro wn nsn)
      | (refine nsBool (X := ⟨n, R, a, cap, zs, none, [], w.heap.size, w2.heap.size, w.heap.size, w.heap.size, 0, 0, 0, 0, w⟩) rfl _ _ rfl rfl rfl (by assumption) ?_; intro wn nsn)
      | (refine nsStr (X := ⟨n, R, a, cap, zs, none, [], w.heap.size, w2.heap.size, w.heap.size, w.heap.size, 0, 0, 0, 0, w⟩) rfl _ _ rfl rfl rfl (by assumption) (by assumption) ?_; intro wn nsn)
      | (refine nsLoad (X := ⟨n, R, a, cap, zs, none, [], w.heap.size, w2.heap.size, w.heap.size, w.heap.size, 0, 0, 0, 0, w⟩) rfl _ rfl rfl (by assumption) ?_; intro oo ht)
      | (refine nsRes (X := ⟨n, R, a, cap, zs, none, [], w.heap.size, w2.heap.size, w.heap.size, w.heap.size, 0, 0, 0, 0, w⟩) (o := oo) rfl _ _ rfl rfl rfl (by assumption) ?_; intro wf Cf Ef)
      | (go_at_call 92; refine (nsStamp ⟨n, R, a, cap, zs, none, [], w.heap.size, w2.heap.size, w.heap.size, w.heap.size, 0, 0, 0, 0, w⟩ _ _ (by assumption) (by omega)).mono ?_; rintro e wn ⟨⟨x, y, rfl⟩, nsn⟩)
      | (go_at_call 100; refine (nsOne ⟨n, R, a, cap, zs, none, [], w.heap.size, w2.heap.size, w.heap.size, w.heap.size, 0, 0, 0, 0, w⟩ _ _ _ _ _ (by assumption) (by omega) (by decide) (by decide) (by first | exact ints [0, 11, 2, 10] | exact ints [-1, 5, 31, 0])).mono ?_; rintro e wn ⟨⟨x, rfl⟩, nsn⟩))
    all_goals (obtain ⟨d0, d1, d2, d3, d4, d5, d6, d7, d8, d9, d10, d11⟩ := Cf; exact bodyPost_ret (v := .agg #[.int .i64 oo.i, .int .i64 oo.j, .int .i64 oo.k, .int .i64 oo.ts, .int .i64 oo.ta, .int .i64 oo.fs, .int .i64 oo.fa, .int .i64 oo.ns, .int .i64 oo.na, .int .i64 oo.v, .bool oo.en, .string oo.tx]) (by simp [results, Try.results61, go_sem, d0, d1, d2, d3, d4, d5, d6, d7, d8, d9, d10, d11]) rfl ⟨⟨oo, rfl, ht⟩, fin Ef (by omega)⟩)
  · have e0 : ((m : Int) == 0) = false := beq_false_of_ne (by omega)
    have g0 : ¬ ((m : Int) = 0) := by omega
    have e1 : ((m : Int) == 1) = false := beq_false_of_ne (by omega)
    have g1 : ¬ ((m : Int) = 1) := by omega
    have e2 : ((m : Int) == 2) = false := beq_false_of_ne (by omega)
    have g2 : ¬ ((m : Int) = 2) := by omega
    have e3 : ((m : Int) == 3) = false := beq_false_of_ne (by omega)
    have g3 : ¬ ((m : Int) = 3) := by omega
    have e4 : ((m : Int) == 4) = false := beq_false_of_ne (by omega)
    have g4 : ¬ ((m : Int) = 4) := by omega
    go_wp2_with (first
      | (refine nsInt (X := ⟨n, R, a, cap, zs, none, [], w.heap.size, w2.heap.size, w.heap.size, w.heap.size, 0, 0, 0, 0, w⟩) rfl _ _ rfl rfl rfl (by decide) (by assumption) ?_; intro wn nsn)
      | (refine nsSt (X := ⟨n, R, a, cap, zs, none, [], w.heap.size, w2.heap.size, w.heap.size, w.heap.size, 0, 0, 0, 0, w⟩) rfl _ _ rfl rfl rfl (by decide) (by assumption) ?_; intro wn nsn)
      | (refine nsBool (X := ⟨n, R, a, cap, zs, none, [], w.heap.size, w2.heap.size, w.heap.size, w.heap.size, 0, 0, 0, 0, w⟩) rfl _ _ rfl rfl rfl (by assumption) ?_; intro wn nsn)
      | (refine nsStr (X := ⟨n, R, a, cap, zs, none, [], w.heap.size, w2.heap.size, w.heap.size, w.heap.size, 0, 0, 0, 0, w⟩) rfl _ _ rfl rfl rfl (by assumption) (by assumption) ?_; intro wn nsn)
      | (refine nsLoad (X := ⟨n, R, a, cap, zs, none, [], w.heap.size, w2.heap.size, w.heap.size, w.heap.size, 0, 0, 0, 0, w⟩) rfl _ rfl rfl (by assumption) ?_; intro oo ht)
      | (refine nsRes (X := ⟨n, R, a, cap, zs, none, [], w.heap.size, w2.heap.size, w.heap.size, w.heap.size, 0, 0, 0, 0, w⟩) (o := oo) rfl _ _ rfl rfl rfl (by assumption) ?_; intro wf Cf Ef)
      | (go_at_call 92; refine (nsStamp ⟨n, R, a, cap, zs, none, [], w.heap.size, w2.heap.size, w.heap.size, w.heap.size, 0, 0, 0, 0, w⟩ _ _ (by assumption) (by omega)).mono ?_; rintro e wn ⟨⟨x, y, rfl⟩, nsn⟩)
      | (go_at_call 100; refine (nsOne ⟨n, R, a, cap, zs, none, [], w.heap.size, w2.heap.size, w.heap.size, w.heap.size, 0, 0, 0, 0, w⟩ _ _ _ _ _ (by assumption) (by omega) (by decide) (by decide) (by first | exact ints [0, 11, 2, 10] | exact ints [-1, 5, 31, 0])).mono ?_; rintro e wn ⟨⟨x, rfl⟩, nsn⟩))
    all_goals (obtain ⟨d0, d1, d2, d3, d4, d5, d6, d7, d8, d9, d10, d11⟩ := Cf; exact bodyPost_ret (v := .agg #[.int .i64 oo.i, .int .i64 oo.j, .int .i64 oo.k, .int .i64 oo.ts, .int .i64 oo.ta, .int .i64 oo.fs, .int .i64 oo.fa, .int .i64 oo.ns, .int .i64 oo.na, .int .i64 oo.v, .bool oo.en, .string oo.tx]) (by simp [results, Try.results61, go_sem, d0, d1, d2, d3, d4, d5, d6, d7, d8, d9, d10, d11]) rfl ⟨⟨oo, rfl, ht⟩, fin Ef (by omega)⟩)

end Go.Proofs.Ytlogpbejfifgdaa.MoG
