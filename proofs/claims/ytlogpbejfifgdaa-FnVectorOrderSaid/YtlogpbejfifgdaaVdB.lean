/-
  DrawVectorMax, DrawNextStamp, DrawVectorContains of the reader: vectors of at most three numbers in new memory, a number, a stamp; nothing that was there is written. For every slice of bytes.
-/
import Derived.Test.YtlogpbejfifgdaaVdA
import Derived.Test.YtlogpbejfifgdaaK4
namespace Go.Proofs.Ytlogpbejfifgdaa.VdB
open Go.RowKit Go.Proofs.Ytlogpbejfifgdaa.Base Go.Proofs.Ytlogpbejfifgdaa.St Go.Proofs.Ytlogpbejfifgdaa.Vec Go.Proofs.Ytlogpbejfifgdaa.Row Go.Proofs.Ytlogpbejfifgdaa.RowB Go.Proofs.Ytlogpbejfifgdaa.RowC Go.Proofs.Ytlogpbejfifgdaa.RdA Go.Proofs.Ytlogpbejfifgdaa.RdB Go.Proofs.Ytlogpbejfifgdaa.RdC Go.Proofs.Ytlogpbejfifgdaa.RdD Go.Proofs.Ytlogpbejfifgdaa.VdA
set_option linter.unusedVariables false

def DrawnVV (w : World) (e : Ending) (w' : World) : Prop :=
  (∃ (A : Option Addr) (c : Nat) (us : List Int) (B : Option Addr) (d : Nat) (vs : List Int), e = .returned (.tuple #[.slice A us.length c, .slice B vs.length d]) ∧ Rd w' A us ∧ Rd w' B vs ∧ us.length ≤ 3 ∧ vs.length ≤ 3) ∧ Below w.heap.size w w'
def DrawnVI (w : World) (e : Ending) (w' : World) : Prop :=
  (∃ (A : Option Addr) (c : Nat) (us : List Int) (z : Int), e = .returned (.tuple #[.slice A us.length c, .int .i64 z]) ∧ Rd w' A us ∧ us.length ≤ 3) ∧ Below w.heap.size w w'
def DrawnVS (w : World) (e : Ending) (w' : World) : Prop :=
  (∃ (A : Option Addr) (c : Nat) (us : List Int) (s t : Int), e = .returned (.tuple #[.slice A us.length c, .agg #[.int .i64 s, .int .i64 t]]) ∧ Rd w' A us ∧ us.length ≤ 3) ∧ Below w.heap.size w w'

set_option maxRecDepth 100000 in
theorem drawMax (a : Option Addr) (cap : Nat) (xs : List Int) (w : World) (rx : RdB w a xs) (hx : xs.length ≤ cap) :
    Calls Try.prog 38 #[.slice a xs.length cap] w (DrawnVV w) := by
  have HN := Lib.hid (newReader a cap xs w rx hx)
  clear rx
  go_enter Try.func38, Try.ntmps38
  go_wp2_with fail
  refine HN.out.mono ?_
  rintro e w1 ⟨rfl, ⟨a1, c1, zs, hs⟩, b1, hz⟩
  have HA := Lib.hid (anyVector (w.heap.size + 1) w.heap.size a1 c1 0 zs w1 hs (by omega) (by omega))
  clear hs HN
  go_wp2_with fail
  refine HA.out.mono ?_
  rintro e w2 ⟨⟨A, c, us, rfl, hu, hul⟩, ⟨p, hp, hs2⟩, hw⟩
  have B2 : Below w.heap.size w w2 := b1.trans (hw.below (by omega) (Nat.le_refl _))
  have z2 := hw.size
  have HU := Lib.hid hu
  have HA2 := Lib.hid (anyVector (w.heap.size + 1) w.heap.size a1 c1 p zs w2 hs2 (by omega) (by omega))
  clear hu hs2 HA
  go_wp2_with fail
  refine HA2.out.mono ?_
  rintro e w3 ⟨⟨B, d, vs, rfl, hv, hvl⟩, _, hw3⟩
  have HU3 := Lib.hid (VR.rd (VR.wr HU.out hw3 (by omega)))
  have HV3 := Lib.hid hv.rd
  have B3 : Below w.heap.size w w3 := B2.trans (hw3.below (by omega) (Nat.le_refl _))
  clear hv HA2 hw3
  go_wp2
  go_ret2
  exact ⟨⟨A, c, us, B, d, vs, rfl, HU3.out, HV3.out, hul, hvl⟩, B3⟩

set_option maxRecDepth 100000 in
theorem drawNext (a : Option Addr) (cap : Nat) (xs : List Int) (w : World) (rx : RdB w a xs) (hx : xs.length ≤ cap) :
    Calls Try.prog 51 #[.slice a xs.length cap] w (DrawnVI w) := by
  have HN := Lib.hid (newReader a cap xs w rx hx)
  clear rx
  go_enter Try.func51, Try.ntmps51
  go_wp2_with fail
  refine HN.out.mono ?_
  rintro e w1 ⟨rfl, ⟨a1, c1, zs, hs⟩, b1, hz⟩
  have HA := Lib.hid (anyVector (w.heap.size + 1) w.heap.size a1 c1 0 zs w1 hs (by omega) (by omega))
  clear hs HN
  go_wp2_with fail
  refine HA.out.mono ?_
  rintro e w2 ⟨⟨A, c, us, rfl, hu, hul⟩, ⟨p, hp, hs2⟩, hw⟩
  have B2 : Below w.heap.size w w2 := b1.trans (hw.below (by omega) (Nat.le_refl _))
  have z2 := hw.size
  have HU := Lib.hid hu
  have HP := Lib.hid (pickS (w.heap.size + 1) w.heap.size a1 c1 p 5 zs w2 hs2 (by omega) (by omega) (by omega))
  clear hu hs2 HA
  go_wp2_with fail
  refine HP.out.mono ?_
  rintro e w3 ⟨⟨k, hk, rfl⟩, hs3, hw3⟩
  have HU3 := Lib.hid (VR.rd (VR.wr HU.out hw3 (by omega)))
  have B3 : Below w.heap.size w w3 := B2.trans (hw3.below (by omega) (Nat.le_refl _))
  clear hs3 hw3 HP
  have hk0 : (0 : Int) ≤ (k : Int) := Int.natCast_nonneg _
  have hk1 : (k : Int) < 5 := by omega
  go_wp2
  go_ret2
  exact ⟨⟨A, c, us, _, rfl, HU3.out, hul⟩, B3⟩

set_option maxRecDepth 100000 in
set_option maxHeartbeats 2000000 in
theorem drawContains (a : Option Addr) (cap : Nat) (xs : List Int) (w : World) (rx : RdB w a xs) (hx : xs.length ≤ cap) :
    Calls Try.prog 46 #[.slice a xs.length cap] w (DrawnVS w) := by
  obtain ⟨w0, hw0⟩ : ∃ w0, w0 = w.alloc (.cells #[.int .i64 0, .int .i64 0] 25) := ⟨_, rfl⟩
  have B0 : Below w.heap.size w w0 := by rw [hw0]; exact (Below.refl _ _).alloc (Nat.le_refl _) _
  have z0 : w.heap.size < w0.heap.size := by rw [hw0]; simp
  have HR0 := Lib.hid (by rw [hw0]; exact Res.new w 25 : Res w.heap.size w0)
  have HN := Lib.hid (newReader a cap xs w0 (rdb_below rx B0) hx)
  have HW0 := Lib.hid hw0
  have HB0 := Lib.hid B0
  clear rx hw0 B0
  go_enter Try.func46, Try.ntmps46
  go_wp2_with fail
  rw [← HW0.out]
  refine HN.out.mono ?_
  rintro e w1 ⟨rfl, ⟨a1, c1, zs, hs⟩, b1, hz⟩
  have HR1 := Lib.hid (Res.wr (R := w0.heap.size) HR0.out (.of_below b1) (by omega))
  have HA := Lib.hid (anyVector (w0.heap.size + 1) w0.heap.size a1 c1 0 zs w1 hs (by omega) (by omega))
  clear hs HN
  go_wp2_with fail
  refine HA.out.mono ?_
  rintro e w2 ⟨⟨A, c, us, rfl, hu, hul⟩, ⟨p, hp, hs2⟩, hw⟩
  have B2 : Below w.heap.size w w2 := (HB0.out.trans (b1.mono (by omega))).trans (hw.below (by omega) (by omega))
  have HR2 := Lib.hid (HR1.out.wr hw (by omega))
  have z2 := hw.size
  have HU := Lib.hid hu
  have HA2 := Lib.hid (anyStamp (w0.heap.size + 1) w0.heap.size a1 c1 p zs w2 hs2 (by omega) (by omega))
  clear hu hs2 HA
  go_wp2_with fail
  refine HA2.out.mono ?_
  rintro e w3 ⟨⟨s, t, rfl⟩, _, hw3⟩
  have HU3 := Lib.hid (VR.rd (VR.wr HU.out hw3 (by omega)))
  have B3 : Below w.heap.size w w3 := B2.trans (hw3.below (by omega) (by omega))
  have HU4 := Lib.hid (VR.wr HU.out hw3 (by omega))
  obtain ⟨x0, x1, x2, x3, x4⟩ := HR2.out.wr hw3 (by omega)
  have hb : w.heap.size < w2.heap.size := HR2.out.1
  have z3 := hw3.size
  have HB3 := Lib.hid B3
  clear HA2 hw3 B2 B3 hw b1 HB0
  go_wp2
  refine bodyPost_ret (v := .tuple #[.slice A us.length c, .agg #[.int .i64 s, .int .i64 t]]) (by simp [results, Try.results46, go_sem, x1, x2]) rfl ⟨⟨A, c, us, s, t, rfl, ?_, hul⟩, ?_⟩
  · exact VR.rd (VR.wr (R := w.heap.size) HU4.out ((Wr.set _ _ _ _).trans (Wr.set _ _ _ _)) (by omega))
  · exact (HB3.out.setCell (Nat.le_refl _) _).setCell (Nat.le_refl _) _

end Go.Proofs.Ytlogpbejfifgdaa.VdB
