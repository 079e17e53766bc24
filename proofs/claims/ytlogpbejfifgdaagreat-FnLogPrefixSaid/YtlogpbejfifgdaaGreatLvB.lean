/-
  DrawLogVector and DrawLogPrefix of the reader: a slice of at most 29 operations with short texts (and a vector); nothing that was there is written. For every slice of bytes. And what the laws of LogVector and LogPrefix need besides.
-/
import Derived.Test.YtlogpbejfifgdaaGreatRfC
import Derived.Test.YtlogpbejfifgdaaGreatK4
import Derived.Test.YtlogpbejfifgdaaGreatVdA
import Derived.Test.YtlogpbejfifgdaaGreatVdC
import Derived.Test.YtlogpbejfifgdaaGreatLvA
import Derived.Test.YtlogpbejfifgdaaGreatLgX
import Derived.Test.YtlogpbejfifgdaaGreatK2
import Derived.Test.YtlogpbejfifgdaaGreatK5
import Derived.Test.YtlogpbejfifgdaaGreatLhD
import Derived.Test.YtlogpbejfifgdaaGreatMoC
namespace Go.Proofs.YtlogpbejfifgdaaGreat.LvB
open Go.RowKit Go.Proofs.YtlogpbejfifgdaaGreat.Base Go.Proofs.YtlogpbejfifgdaaGreat.St Go.Proofs.YtlogpbejfifgdaaGreat.StB Go.Proofs.YtlogpbejfifgdaaGreat.Vec Go.Proofs.YtlogpbejfifgdaaGreat.Row Go.Proofs.YtlogpbejfifgdaaGreat.RowB Go.Proofs.YtlogpbejfifgdaaGreat.RowC Go.Proofs.YtlogpbejfifgdaaGreat.VecA Go.Proofs.YtlogpbejfifgdaaGreat.VecD Go.Proofs.YtlogpbejfifgdaaGreat.OpA Go.Proofs.YtlogpbejfifgdaaGreat.OpB Go.Proofs.YtlogpbejfifgdaaGreat.LgA Go.Proofs.YtlogpbejfifgdaaGreat.LgB Go.Proofs.YtlogpbejfifgdaaGreat.LgC Go.Proofs.YtlogpbejfifgdaaGreat.LgF Go.Proofs.YtlogpbejfifgdaaGreat.LgH Go.Proofs.YtlogpbejfifgdaaGreat.LgI Go.Proofs.YtlogpbejfifgdaaGreat.LgP Go.Proofs.YtlogpbejfifgdaaGreat.LgQ Go.Proofs.YtlogpbejfifgdaaGreat.LgS Go.Proofs.YtlogpbejfifgdaaGreat.LgT Go.Proofs.YtlogpbejfifgdaaGreat.LgW Go.Proofs.YtlogpbejfifgdaaGreat.LgX Go.Proofs.YtlogpbejfifgdaaGreat.LgZ Go.Proofs.YtlogpbejfifgdaaGreat.LhA Go.Proofs.YtlogpbejfifgdaaGreat.LhB Go.Proofs.YtlogpbejfifgdaaGreat.LhD Go.Proofs.YtlogpbejfifgdaaGreat.RdA Go.Proofs.YtlogpbejfifgdaaGreat.RdB Go.Proofs.YtlogpbejfifgdaaGreat.RdD Go.Proofs.YtlogpbejfifgdaaGreat.RfC Go.Proofs.YtlogpbejfifgdaaGreat.VdA Go.Proofs.YtlogpbejfifgdaaGreat.VdC Go.Proofs.YtlogpbejfifgdaaGreat.LvA Go.Proofs.YtlogpbejfifgdaaGreat.MoC
set_option linter.unusedVariables false

def DrawnL (w : World) (e : Ending) (w' : World) : Prop :=
  (∃ (A : Option Addr) (c : Nat) (os : List OpV), e = .returned (.slice A os.length c) ∧ RdO w' A os ∧ os.length ≤ 29 ∧ ∀ k, k < os.length → (os.getD k zop).tx.size ≤ 8) ∧ Below w.heap.size w w'
def DrawnP (w : World) (e : Ending) (w' : World) : Prop :=
  (∃ (A : Option Addr) (c : Nat) (os : List OpV) (B : Option Addr) (d : Nat) (vs : List Int), e = .returned (.tuple #[.slice A os.length c, .slice B vs.length d]) ∧ RdO w' A os ∧ Rd w' B vs ∧ os.length ≤ 29 ∧ vs.length ≤ 3 ∧ ∀ k, k < os.length → (os.getD k zop).tx.size ≤ 8) ∧ Below w.heap.size w w'
theorem rowO_cap {lo : Nat} {w : World} {a : Option Addr} {c n : Nat} {f : Nat → OpV} (h : RowO lo w a c n f) : n ≤ c := by
  rcases h with ⟨_, h0⟩ | ⟨b, _, _, ⟨g, _, hn, _⟩⟩
  · omega
  · exact hn
theorem zeros (w : World) (T : TypeId) : Rd (w.alloc (.cells #[.int .i64 0, .int .i64 0, .int .i64 0] T)) (some ⟨w.heap.size, 0, none⟩) [0, 0, 0] := by
  refine .inr ⟨_, 0, rfl, fun i hi => ?_⟩
  have hi3 : i < 3 := hi
  rw [World.cell?_alloc_at _ _ _ _ rfl]
  obtain rfl | rfl | rfl : i = 0 ∨ i = 1 ∨ i = 2 := by omega
  all_goals rfl
theorem eqSelf (a a' : Option Addr) (c c' : Nat) (xs : List Int) (w : World) (hx : Rd w a xs) (hy : Rd w a' xs) (hl : xs.length ≤ 1048576) :
    Calls Tryz.prog 7 #[.slice a xs.length c, .slice a' xs.length c'] w fun e w' => e = .returned (.bool true) ∧ Below w.heap.size w w' := by
  have h := equalInts a a' c c' xs xs w hx hy hl hl
  rwa [decide_eq_true rfl] at h
theorem keep_len (P : OpV → Bool) (os : List OpV) {N : Nat} (h : os.length ≤ N) : (keepTo P os os.length).length ≤ N := Nat.le_trans (keepTo_len _ _ _) h
theorem pfx_len (os : List OpV) (zs : List Int) {N : Nat} (h : os.length ≤ N) : (pfx os zs).length ≤ N := by
  unfold pfx
  split
  · exact keep_len _ _ h
  · simp
theorem mis_len (os : List OpV) (zs : List Int) {N : Nat} (h : os.length ≤ N) : (mis os zs).length ≤ N := by
  unfold mis
  split
  · exact keep_len _ _ h
  · simp
theorem keep_short (P : OpV → Bool) {os : List OpV} {N : Nat} (h : ∀ k, k < os.length → (os.getD k zop).tx.size ≤ N) : ∀ k, k < (keepTo P os os.length).length → ((keepTo P os os.length).getD k zop).tx.size ≤ N := by
  intro k hk
  rw [Go.Proofs.YtlogpbejfifgdaaGreat.LwA.keepTo_all] at hk ⊢
  obtain ⟨j, hj, e⟩ := Go.Proofs.YtlogpbejfifgdaaGreat.LwA.mem_getD (List.mem_filter.1 (Go.Proofs.YtlogpbejfifgdaaGreat.LwA.getD_mem hk)).1
  rw [← e]
  exact h j hj
theorem pfx_short {os : List OpV} {N : Nat} (zs : List Int) (h : ∀ k, k < os.length → (os.getD k zop).tx.size ≤ N) : ∀ k, k < (pfx os zs).length → ((pfx os zs).getD k zop).tx.size ≤ N := by
  unfold pfx
  split
  · exact keep_short _ h
  · exact fun k hk => absurd hk (by simp)
theorem mis_short {os : List OpV} {N : Nat} (zs : List Int) (h : ∀ k, k < os.length → (os.getD k zop).tx.size ≤ N) : ∀ k, k < (mis os zs).length → ((mis os zs).getD k zop).tx.size ≤ N := by
  unfold mis
  split
  · exact keep_short _ h
  · exact fun k hk => absurd hk (by simp)
theorem lvec_len (os : List OpV) : (lvec os).length ≤ 1048576 := by
  unfold lvec
  split <;> simp

set_option maxRecDepth 100000 in
theorem drawVector (a : Option Addr) (cap : Nat) (xs : List Int) (w : World) (rx : RdB w a xs) (hx : xs.length ≤ cap) :
    Calls Tryz.prog 5 #[.slice a xs.length cap] w (DrawnL w) := by
  have HN := Lib.hid (newReader a cap xs w rx hx)
  clear rx
  go_enter Tryz.func5, Tryz.ntmps5
  go_wp2_with fail
  refine HN.out.mono ?_
  rintro e w1 ⟨rfl, ⟨a1, c1, zs, hs⟩, b1, hz⟩
  have HA := Lib.hid (anyLog (w.heap.size + 1) w.heap.size a1 c1 0 zs w1 hs (by omega) (by omega))
  clear hs HN
  go_wp2_with fail
  refine HA.out.mono ?_
  rintro e w2 ⟨⟨A, c, os, rfl, hrow, hlen, ht⟩, _, hw⟩
  have B2 : Below w.heap.size w w2 := b1.trans (hw.below (by omega) (Nat.le_refl _))
  have HRow := Lib.hid hrow.rd
  have HT := Lib.hid ht
  clear hrow ht HA hw b1
  go_wp2
  go_ret
  exact ⟨⟨A, c, os, rfl, HRow.out, hlen, HT.out⟩, B2⟩

set_option maxRecDepth 100000 in
theorem drawPrefix (a : Option Addr) (cap : Nat) (xs : List Int) (w : World) (rx : RdB w a xs) (hx : xs.length ≤ cap) :
    Calls Tryz.prog 14 #[.slice a xs.length cap] w (DrawnP w) := by
  have HN := Lib.hid (newReader a cap xs w rx hx)
  clear rx
  go_enter Tryz.func14, Tryz.ntmps14
  go_wp2_with fail
  refine HN.out.mono ?_
  rintro e w1 ⟨rfl, ⟨a1, c1, zs, hs⟩, b1, hz⟩
  have HA := Lib.hid (anyLog (w.heap.size + 1) w.heap.size a1 c1 0 zs w1 hs (by omega) (by omega))
  clear hs HN
  go_wp2_with fail
  refine HA.out.mono ?_
  rintro e w2 ⟨⟨A, c, os, rfl, hrow, hlen, ht⟩, ⟨p, hp, hs2⟩, hw⟩
  have B2 : Below w.heap.size w w2 := b1.trans (hw.below (by omega) (Nat.le_refl _))
  have z2 := hw.size
  have HRow := Lib.hid hrow
  have HT := Lib.hid ht
  have HV := Lib.hid (anyVector (w.heap.size + 1) w.heap.size a1 c1 p zs w2 hs2 (by omega) (by omega))
  clear hrow ht HA hs2 hw b1
  go_wp2_with fail
  refine HV.out.mono ?_
  rintro e w3 ⟨⟨B, d, vs, rfl, hv, hvl⟩, _, hw3⟩
  have HRow3 := Lib.hid (RowO.wr HRow.out hw3 (by omega)).rd
  have HV3 := Lib.hid hv.rd
  have B3 : Below w.heap.size w w3 := B2.trans (hw3.below (by omega) (Nat.le_refl _))
  clear hv HV hw3
  go_wp2
  go_ret2
  exact ⟨⟨A, c, os, B, d, vs, rfl, HRow3.out, HV3.out, hlen, hvl, HT.out⟩, B3⟩

end Go.Proofs.YtlogpbejfifgdaaGreat.LvB
