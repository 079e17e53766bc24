/-
  What the law FnExactNewNetwork does with networks of three empty replicas: eq, mark and held of them. No condition but that they are such.
-/
import Derived.Test.YtdbnflgckcjlcaaNnA
import Derived.BigQuiet
import Derived.Deep.QuietTactic
import Derived.Handy
import Derived.Outline
namespace Go.Proofs.Ytdbnflgckcjlcaa.NnB
open Go.RowKit Go.Proofs.Ytdbnflgckcjlcaa.Base Go.Proofs.Ytdbnflgckcjlcaa.GsA Go.Proofs.Ytdbnflgckcjlcaa.GsB Go.Proofs.Ytdbnflgckcjlcaa.NnA
set_option linter.unusedVariables false
attribute [local go_sem ↓] Go.wp_at_zero Go.wp_at_succ

theorem eqOpS0 (w : World) : Calls Try.prog 15 #[.slice none 0 0, .slice none 0 0] w fun e w' => e = .returned (.bool true) ∧ w = w' := by
  go_enter Try.func15, Try.ntmps15
  go_wp2
  go_rounds 1
  go_ret
  exact ⟨rfl, rfl⟩
theorem eqMessageS0 (w : World) : Calls Try.prog 58 #[.slice none 0 0, .slice none 0 0] w fun e w' => e = .returned (.bool true) ∧ w = w' := by
  go_enter Try.func58, Try.ntmps58
  go_wp2
  go_rounds 1
  go_ret
  exact ⟨rfl, rfl⟩
theorem eqPacketS0 (w : World) : Calls Try.prog 46 #[.slice none 0 0, .slice none 0 0] w fun e w' => e = .returned (.bool true) ∧ w = w' := by
  go_enter Try.func46, Try.ntmps46
  go_wp2
  go_rounds 1
  go_ret
  exact ⟨rfl, rfl⟩
set_option maxRecDepth 100000 in
theorem markOpS0 (k : Int) (w : World) : Calls Try.prog 16 #[.slice none 0 0, .int .i64 k] w fun e w' => e = .returned (.int .i64 k) ∧ w = w' := by
  go_enter Try.func16, Try.ntmps16
  go_wp2
  go_rounds 1
  go_ret
  exact ⟨rfl, rfl⟩
set_option maxRecDepth 100000 in
theorem markMessageS0 (k : Int) (w : World) : Calls Try.prog 77 #[.slice none 0 0, .int .i64 k] w fun e w' => e = .returned (.int .i64 k) ∧ w = w' := by
  go_enter Try.func77, Try.ntmps77
  go_wp2
  go_rounds 1
  go_ret
  exact ⟨rfl, rfl⟩
set_option maxRecDepth 100000 in
theorem markPacketS0 (k : Int) (w : World) : Calls Try.prog 48 #[.slice none 0 0, .int .i64 k] w fun e w' => e = .returned (.int .i64 k) ∧ w = w' := by
  go_enter Try.func48, Try.ntmps48
  go_wp2
  go_rounds 1
  go_ret
  exact ⟨rfl, rfl⟩
set_option maxRecDepth 100000 in
theorem heldOpS0 (k : Int) (w : World) : Calls Try.prog 17 #[.slice none 0 0, .int .i64 k] w fun e w' => e = .returned (.int .i64 k) ∧ w = w' := by
  go_enter Try.func17, Try.ntmps17
  go_wp2
  go_rounds 1
  go_ret
  exact ⟨rfl, rfl⟩
set_option maxRecDepth 100000 in
theorem heldMessageS0 (k : Int) (w : World) : Calls Try.prog 78 #[.slice none 0 0, .int .i64 k] w fun e w' => e = .returned (.int .i64 k) ∧ w = w' := by
  go_enter Try.func78, Try.ntmps78
  go_wp2
  go_rounds 1
  go_ret
  exact ⟨rfl, rfl⟩
set_option maxRecDepth 100000 in
theorem heldPacketS0 (k : Int) (w : World) : Calls Try.prog 50 #[.slice none 0 0, .int .i64 k] w fun e w' => e = .returned (.int .i64 k) ∧ w = w' := by
  go_enter Try.func50, Try.ntmps50
  go_wp2
  go_rounds 1
  go_ret
  exact ⟨rfl, rfl⟩

set_option maxRecDepth 100000 in
theorem eqReplica (x : Int) (w : World) :
    Calls Try.prog 27 #[.agg #[.int .i64 x, .slice none 0 0, .slice none 0 0], .agg #[.int .i64 x, .slice none 0 0, .slice none 0 0]] w fun e w' => e = .returned (.bool true) ∧ Below w.heap.size w w' := by
  obtain ⟨w0, hw0⟩ : ∃ w0, w0 = ((w.alloc (.cells #[.int .i64 x, .slice none 0 0, .slice none 0 0] 50)).alloc (.cells #[.int .i64 x, .slice none 0 0, .slice none 0 0] 50)) := ⟨_, rfl⟩
  have HB := Lib.hid (by rw [hw0]; exact ((Below.refl _ _).alloc (Nat.le_refl _) _).alloc (by simp) _ : Below w.heap.size w w0)
  have p1 : w0.cell? ⟨w.heap.size, 2, none⟩ = some (.slice none 0 0) := by rw [hw0]; simp [go_sem]
  have p2 : w0.cell? ⟨w.heap.size + 1, 2, none⟩ = some (.slice none 0 0) := by rw [hw0]; simp [go_sem]
  have HW := Lib.hid hw0
  clear hw0
  go_enter Try.func27, Try.ntmps27
  go_wp2_with fail
  rw [← HW.out]
  refine (eqOpS0 _).mono ?_
  rintro e w1 ⟨rfl, rfl⟩
  go_wp2_with fail
  refine (eqMessageS0 _).mono ?_
  rintro e w1 ⟨rfl, rfl⟩
  go_wp2
  go_ret
  exact ⟨rfl, HB.out⟩

/-- The three rows of the block b. -/
def Rows3 (w : World) (b : Nat) (f : Nat → Int) : Prop := ∀ k, k < 3 → w.rangeAt b (k * 3) (ERep.L (f k))
theorem Rows3.below {w w' : World} {b : Nat} {f : Nat → Int} (h : Rows3 w b f) (hb : Below w.heap.size w w') : Rows3 w' b f := fun k hk => rangeAt_below (h k hk) hb (rangeAt_ltG ERep (h k hk))
theorem rows_own {w : World} {b c : Nat} {f : Nat → Int} (h : OwnG ERep DRep.T w b c 3 f) : Rows3 w b f := fun k hk => h.range hk

set_option maxRecDepth 100000 in
theorem eqReplicaS (b b' c c' : Nat) (f : Nat → Int) (w : World) (hx : Rows3 w b f) (hy : Rows3 w b' f) :
    Calls Try.prog 45 #[.slice (some ⟨b, 0, none⟩) 3 c, .slice (some ⟨b', 0, none⟩) 3 c'] w fun e w' => e = .returned (.bool true) ∧ Below w.heap.size w w' := by
  have HC := Lib.hid hx
  have HC' := Lib.hid hy
  clear hx hy
  go_enter Try.func45, Try.ntmps45
  go_wp2
  go_loopw [5] (fun i wr => ∃ k : Nat, k ≤ 3 ∧ i = .int .i64 k ∧ Below w.heap.size w wr) (fun i _ => 3 - (intOf i).toNat)
  case atStart => exact ⟨0, Nat.zero_le _, rfl, Below.refl _ _⟩
  case round =>
    obtain ⟨k, hk, rfl, hnx⟩ := hrel
    by_cases hlt : k < 3
    · obtain ⟨x, ho⟩ : ∃ x, x = f k := ⟨_, rfl⟩
      have HR := Lib.hid (by rw [ho]; exact HC.out.below hnx k hlt : wr.rangeAt b (k * 3) (ERep.L x))
      have HR' := Lib.hid (by rw [ho]; exact HC'.out.below hnx k hlt : wr.rangeAt b' (k * 3) (ERep.L x))
      clear ho
      have hk0 : (0 : Int) ≤ (k : Int) := Int.natCast_nonneg _
      have hk1 : (k : Int) < 3 := by omega
      go_wp2
      go_region_held3 (fun w' => CRep w' b (k * 3) x ∧ CRep w' b' (k * 3) x ∧ Below wr.heap.size wr w')
        (first | exact ⟨cRep HR.out, cRep HR'.out, (Below.refl _ _).drew⟩ | (have hB : Below wr.heap.size wr w1 := (Below.refl _ _).drew.trans hb1; exact ⟨cRep (rangeAt_below HR.out hB (rangeAt_ltG ERep HR.out)), cRep (rangeAt_below HR'.out hB (rangeAt_ltG ERep HR'.out)), hB⟩))
        (first | (go_at_call 27; refine (eqReplica x _).mono ?_; rintro e w1 ⟨rfl, hb1⟩))
      go_wp2
      go_roundw
      case rel => exact ⟨k + 1, by omega, by go_num, hnx.trans ((And.right (And.right (by assumption : CRep _ b (k * 3) x ∧ CRep _ b' (k * 3) x ∧ Below wr.heap.size wr _))).mono hnx.size)⟩
      case measure => simp [intOf]; omega
    · obtain rfl : k = 3 := by omega
      go_wp2
      go_ret
      exact ⟨rfl, hnx⟩

theorem eqNetwork (b b' c c' : Nat) (f : Nat → Int) (w : World) (hx : Rows3 w b f) (hy : Rows3 w b' f) :
    Calls Try.prog 20 #[.agg #[.slice (some ⟨b, 0, none⟩) 3 c, .slice none 0 0], .agg #[.slice (some ⟨b', 0, none⟩) 3 c', .slice none 0 0]] w fun e w' => e = .returned (.bool true) ∧ Below w.heap.size w w' := by
  obtain ⟨w0, hw0⟩ : ∃ w0, w0 = ((w.alloc (.cells #[.slice (some ⟨b, 0, none⟩) 3 c, .slice none 0 0] 38)).alloc (.cells #[.slice (some ⟨b', 0, none⟩) 3 c', .slice none 0 0] 38)) := ⟨_, rfl⟩
  have hz : w0.heap.size = w.heap.size + 2 := by rw [hw0]; simp
  have hB : Below w.heap.size w w0 := by rw [hw0]; exact ((Below.refl _ _).alloc (Nat.le_refl _) _).alloc (by simp) _
  have p1 : w0.cell? ⟨w.heap.size, 1, none⟩ = some (.slice none 0 0) := by rw [hw0]; simp [go_sem]
  have p2 : w0.cell? ⟨w.heap.size + 1, 1, none⟩ = some (.slice none 0 0) := by rw [hw0]; simp [go_sem]
  have HE := Lib.hid (eqReplicaS b b' c c' f w0 (hx.below hB) (hy.below hB))
  have HB := Lib.hid hB
  have HZ := Lib.hid hz
  have HW := Lib.hid hw0
  have P1 := Lib.hid p1
  have P2 := Lib.hid p2
  clear hx hy hB hz hw0 p1 p2
  go_enter Try.func20, Try.ntmps20
  go_wp2_with fail
  rw [← HW.out]
  refine HE.out.mono ?_
  rintro e w1 ⟨rfl, hb1⟩
  have d1 := (hb1.cell (p := ⟨w.heap.size, 1, none⟩) (by have := HZ.out; show w.heap.size < _; omega)).trans P1.out
  have d2 := (hb1.cell (p := ⟨w.heap.size + 1, 1, none⟩) (by have := HZ.out; show w.heap.size + 1 < _; omega)).trans P2.out
  go_wp2_with (go_at_call 46; refine (eqPacketS0 _).mono ?_; rintro e w' ⟨rfl, rfl⟩)
  go_ret
  exact ⟨rfl, HB.out.trans (hb1.mono HB.out.size)⟩

set_option maxRecDepth 100000 in
set_option maxHeartbeats 2000000 in
theorem markReplicaS (b c : Nat) (f : Nat → Int) (w : World) (h : OwnG ERep DRep.T w b c 3 f) :
    Calls Try.prog 47 #[.slice (some ⟨b, 0, none⟩) 3 c, .int .i64 1] w fun e w' => e = .returned (.int .i64 4) ∧ OwnG ERep DRep.T w' b c 3 (fun i => 1 + (i : Int)) ∧ w.grownBy w' (some b) := by
  have HO := Lib.hid h
  clear h
  go_enter Try.func47, Try.ntmps47
  go_wp2
  go_loopw [1, 5] (fun q i wr => ∃ k : Nat, k ≤ 3 ∧ i = .int .i64 k ∧ q = .int .i64 (1 + (k : Int)) ∧ OwnG ERep DRep.T wr b c 3 (fun j => if j < k then 1 + (j : Int) else f j) ∧ w.grownBy wr (some b)) (fun _ i _ => 3 - (intOf i).toNat)
  case atStart => exact ⟨0, Nat.zero_le _, rfl, rfl, HO.out.congr fun j hj => by simp, World.grownBy.refl _ _⟩
  case round =>
    obtain ⟨k, hk, rfl, rfl, ho, hg⟩ := hrel
    by_cases hlt : k < 3
    · have hk0 : (0 : Int) ≤ (k : Int) := Int.natCast_nonneg _
      have hk1 : (k : Int) < 3 := by omega
      have HG := Lib.hid hg
      have HT := Lib.hid (ho.there (k := k) (Nat.lt_of_lt_of_le hlt ho.le) 0 1 (by show 0 + 1 ≤ 3; omega) : wr.there b (k * 3) 1)
      have HO2 := Lib.hid ho
      have hlb := ho.lt
      clear ho hg
      go_wp2_with (first
        | (refine store1 rfl 3 _ _ rfl rfl rfl rfl sz_int HT.out ?_
           intro w4 hw4
           have hown : OwnG ERep DRep.T w4 b c 3 (fun j => if j < k + 1 then 1 + (j : Int) else f j) := by
             rw [hw4]
             refine (setF HO2.out (i := k) (j := 0) hlt (by show 0 < 3; omega) (by show k * 3 = k * 3 + 0; omega) _ (1 + (k : Int)) (by rw [if_neg (by omega)]; rfl)).congr fun j hj => ?_
             by_cases e : j = k
             · subst e; simp
             · by_cases e2 : j < k
               · simp [e, e2, Nat.lt_succ_of_lt e2]
               · have : ¬ j < k + 1 := by omega
                 simp [e, e2, this]
           have HO4 := Lib.hid hown
           have HG4 := Lib.hid (by rw [hw4]; exact ⟨HG.out.os, HG.out.tape, HG.out.output, by simpa using HG.out.size, fun m hm hne => (setCell_other (fun e => hne (by rw [e]))).trans (HG.out.block m hm hne)⟩ : w.grownBy w4 (some b))
           obtain ⟨d0, d1, d2⟩ := cRep (by have h2 := hown.range hlt; rw [if_pos (by omega)] at h2; exact h2 : w4.rangeAt b (k * 3) (ERep.L (1 + (k : Int))))
           clear hw4 hown)
        | (go_at_call 16; refine (markOpS0 _ _).mono ?_; rintro e w' ⟨rfl, rfl⟩)
        | (go_at_call 77; refine (markMessageS0 _ _).mono ?_; rintro e w' ⟨rfl, rfl⟩))
      go_roundw
      case rel => exact ⟨k + 1, by omega, by go_num, by go_num, HO4.out, HG4.out⟩
      case measure => simp [intOf]; omega
    · obtain rfl : k = 3 := by omega
      go_wp2
      go_ret
      exact ⟨rfl, ho.congr fun j hj => by rw [if_pos hj], hg⟩

set_option maxRecDepth 100000 in
set_option maxHeartbeats 2000000 in
theorem heldReplicaS (b c : Nat) (w : World) (h : Rows3 w b (fun i => 1 + (i : Int))) :
    Calls Try.prog 49 #[.slice (some ⟨b, 0, none⟩) 3 c, .int .i64 1] w fun e w' => e = .returned (.int .i64 4) ∧ w = w' := by
  have HO := Lib.hid h
  clear h
  go_enter Try.func49, Try.ntmps49
  go_wp2
  go_loop [1, 5] (fun q i => ∃ k : Nat, k ≤ 3 ∧ i = .int .i64 k ∧ q = .int .i64 (1 + (k : Int))) (fun _ i => 3 - (intOf i).toNat)
  case atStart => exact ⟨0, Nat.zero_le _, rfl, rfl⟩
  case round =>
    obtain ⟨k, hk, rfl, rfl⟩ := hrel
    by_cases hlt : k < 3
    · have hk0 : (0 : Int) ≤ (k : Int) := Int.natCast_nonneg _
      have hk1 : (k : Int) < 3 := by omega
      obtain ⟨d0, d1, d2⟩ := cRep (HO.out k hlt)
      go_wp2_with (first
        | (go_at_call 17; refine (heldOpS0 _ _).mono ?_; rintro e w' ⟨rfl, rfl⟩)
        | (go_at_call 78; refine (heldMessageS0 _ _).mono ?_; rintro e w' ⟨rfl, rfl⟩))
      go_round
      case rel => exact ⟨k + 1, by omega, by go_num, by go_num⟩
      case measure => simp [intOf]; omega
    · obtain rfl : k = 3 := by omega
      go_wp2
      go_ret
      exact ⟨rfl, rfl⟩

end Go.Proofs.Ytdbnflgckcjlcaa.NnB
