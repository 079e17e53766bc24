/-
  DrawStampLess: two stamps, whatever the bytes. For every slice of bytes; no condition.
-/
import Derived.Test.YtmjpblgnlbjejaaRdD
namespace Go.Proofs.Ytmjpblgnlbjejaa.RdE
open Go.RowKit Go.Proofs.Ytmjpblgnlbjejaa.Base Go.Proofs.Ytmjpblgnlbjejaa.RdA Go.Proofs.Ytmjpblgnlbjejaa.RdB Go.Proofs.Ytmjpblgnlbjejaa.RdC Go.Proofs.Ytmjpblgnlbjejaa.RdD

theorem Res.below {k : Nat} {W W' : World} (h : Res k W) (hb : Below W.heap.size W W') : Res k W' := RdC.Res.wr (R := W.heap.size) h (.of_below hb) (by have := h.1; omega)

/-- A box of one stamp. -/
def Bx (k : Nat) (s t : Int) (W : World) : Prop := k < W.heap.size ∧ W.cell? ⟨k, 0, none⟩ = some (.int .i64 s) ∧ W.cell? ⟨k, 1, none⟩ = some (.int .i64 t)
theorem Bx.wr {k R : Nat} {s t : Int} {W W' : World} (h : Bx k s t W) (hw : Wr R W W') (hne : k ≠ R) : Bx k s t W' :=
  ⟨Nat.lt_of_lt_of_le h.1 hw.size, (hw.cell h.1 hne).trans h.2.1, (hw.cell h.1 hne).trans h.2.2⟩

set_option maxHeartbeats 1000000 in
theorem drawStampLess (a : Option Addr) (cap : Nat) (zs : List Int) (w : World) (hr : RdB w a zs) (hc : zs.length ≤ cap) :
    Calls Try.prog 18 #[.slice a zs.length cap] w fun e w' =>
      (∃ s t u v : Int, e = .returned (.tuple #[.agg #[.int .i64 s, .int .i64 t], .agg #[.int .i64 u, .int .i64 v]])) ∧ Below w.heap.size w w' := by
  have H := Lib.hid hr
  have S0 := Lib.hid ((Res.new w 25).alloc (.cells #[.int .i64 0, .int .i64 0] 25))
  have T0 := Lib.hid (Res.new (w.alloc (.cells #[.int .i64 0, .int .i64 0] 25)) 25)
  have B0 := Lib.hid (((Below.refl w.heap.size w).alloc (Nat.le_refl _) (.cells #[.int .i64 0, .int .i64 0] 25)).alloc (by simp) (.cells #[.int .i64 0, .int .i64 0] 25))
  clear hr
  go_enter Try.func18, Try.ntmps18
  go_wp2_with fail
  refine (newReader a cap zs _ (rdb_below H.out ?_) hc).mono ?_
  · exact ((Below.refl w.heap.size w).alloc (Nat.le_refl _) _).alloc (by simp) _
  rintro e w1 ⟨rfl, ⟨a1, cap1, zs1, hs1⟩, hb1, hz1⟩
  have S1 := Res.below S0.out hb1
  have T1 := Res.below T0.out hb1
  simp only [World.size_alloc] at T1 hs1 hz1
  have B1 : Below w.heap.size w w1 := B0.out.trans (hb1.mono (by simp; omega))
  clear hb1
  have HS1 := Lib.hid hs1
  clear hs1
  go_wp2_with fail
  refine (anyStamp (w.heap.size + 1 + 1 + 1) (w.heap.size + 1 + 1) a1 cap1 0 zs1 _ HS1.out (by omega) (by omega)).mono ?_
  rintro e w2 ⟨⟨s, t, rfl⟩, ⟨p2, hp2, hs2⟩, hw2⟩
  have S2 := S1.wr hw2 (by omega)
  have T2 := T1.wr hw2 (by omega)
  have hz2 := hw2.size
  have B2 : Below w.heap.size w w2 := B1.trans (hw2.below (by omega) (by omega))
  have hz22 : w.heap.size + 1 + 1 < w2.heap.size := by omega
  clear hw2 S1 T1 B1 hz1 hz2 HS1
  have HS2 := Lib.hid hs2
  clear hs2
  go_wp2_with fail
  have HB : Below (w.heap.size + 1 + 1 + 1) w2 (w2.alloc (.cells #[.int .i64 s, .int .i64 t] 25)).drew := ((Below.refl _ w2).alloc (by omega) _).drew
  have HA := Lib.hid (anyStamp (w.heap.size + 1 + 1 + 1) (w.heap.size + 1 + 1) a1 cap1 p2 zs1 (w2.alloc (.cells #[.int .i64 s, .int .i64 t] 25)).drew (HS2.out.below HB) (by omega) (Nat.le_trans (by omega) HB.size))
  have SA : Res w.heap.size (w2.alloc (.cells #[.int .i64 s, .int .i64 t] 25)).drew := RdC.Res.alloc S2 _
  have TA : Res (w.heap.size + 1) (w2.alloc (.cells #[.int .i64 s, .int .i64 t] 25)).drew := RdC.Res.alloc T2 _
  have BA : Bx w2.heap.size s t (w2.alloc (.cells #[.int .i64 s, .int .i64 t] 25)).drew := (show Bx w2.heap.size s t (w2.alloc (.cells #[.int .i64 s, .int .i64 t] 25)) from ⟨by simp, by simp [go_sem], by simp [go_sem]⟩)
  have BA := Lib.hid BA
  have SA := Lib.hid SA
  have TA := Lib.hid TA
  clear HB
  go_region_with ((go_at_call 46; refine HA.out.mono ?_; rintro e w3 ⟨⟨u, v, rfl⟩, ⟨p3, hp3, hs3⟩, hw3⟩; obtain ⟨hz3, c30, c31, f30, f31⟩ := RdC.Res.wr SA.out hw3 (by omega); obtain ⟨hy3, d30, d31, g30, g31⟩ := RdC.Res.wr TA.out hw3 (by omega); obtain ⟨ey, e30, e31⟩ := BA.out.wr hw3 (by omega)))
  all_goals go_wp2
  all_goals
    have B3 : Below w.heap.size w w3 := (B2.trans (((Below.refl w.heap.size w2).alloc (by omega) (.cells #[.int .i64 s, .int .i64 t] 25)).drew)).trans (hw3.below (by simp; omega) (by omega))
    refine bodyPost_ret (v := .tuple #[.agg #[.int .i64 s, .int .i64 t], .agg #[.int .i64 u, .int .i64 v]]) (by simp [results, Try.results18, go_sem, c30, c31, d30, d31]) rfl ⟨⟨_, _, _, _, rfl⟩, ?_⟩
    repeat (refine Below.setCell ?_ (by simp) _)
    exact B3

end Go.Proofs.Ytmjpblgnlbjejaa.RdE
