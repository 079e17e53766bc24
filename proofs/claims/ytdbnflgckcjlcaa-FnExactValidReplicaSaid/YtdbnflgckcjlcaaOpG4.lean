/-
  The contract of impl.ValidOp at single kinds. For every operation whose text is a Go string; no condition.
-/
import Derived.Test.YtdbnflgckcjlcaaOpG
namespace Go.Proofs.Ytdbnflgckcjlcaa.OpG4
open Go.RowKit Go.Proofs.Ytdbnflgckcjlcaa.Base Go.Proofs.Ytdbnflgckcjlcaa.St Go.Proofs.Ytdbnflgckcjlcaa.StB Go.Proofs.Ytdbnflgckcjlcaa.OpA Go.Proofs.Ytdbnflgckcjlcaa.OpW Go.Proofs.Ytdbnflgckcjlcaa.OpB Go.Proofs.Ytdbnflgckcjlcaa.OpD Go.Proofs.Ytdbnflgckcjlcaa.OpE Go.Proofs.Ytdbnflgckcjlcaa.OpF Go.Proofs.Ytdbnflgckcjlcaa.OpG
set_option linter.unusedVariables false

theorem vop7 (o : OpV) (hk : o.k = 7) : vop o = (vst o.i o.j && ((vref o.i o.j o.ts o.ta false) && eqO o.i o.j 7 o.ts o.ta 0 0 0 0 0 false ByteArray.empty o.i o.j 7 o.ts o.ta o.fs o.fa o.ns o.na o.v o.en o.tx)) := by
  have hb : ByteArray.empty.toList = ([] : List UInt8) := by decide +kernel
  have e1 : ∀ z : Int, ((0 : Int) == z) = decide (z = 0) := fun z => by rw [Bool.eq_iff_iff]; simp; exact ⟨Eq.symm, Eq.symm⟩
  have e2 : ∀ z : Int, (z == (0 : Int)) = decide (z = 0) := fun z => by rw [Bool.eq_iff_iff]; simp
  have e3 : ∀ z : Bool, (false == z) = !z := fun z => by cases z <;> rfl
  have e4 : ∀ l : List UInt8, (([] : List UInt8) == l) = l.isEmpty := fun l => by cases l <;> rfl
  simp only [vop, opKindOk, hk, eqO, zst, bareB, hb, e1, e2, e3, e4, beq_self_eq_true, Bool.true_and, Bool.and_assoc, reduceIte, Int.reduceEq]
  try ac_rfl

set_option maxRecDepth 100000 in
set_option maxHeartbeats 4000000 in
theorem impl_ValidOp7 (o : OpV) (w : World) (hk : o.k = 7) (hs : o.tx.size ≤ maxLen) :
    Calls Try.prog 70 #[.agg #[.int .i64 o.i, .int .i64 o.j, .int .i64 o.k, .int .i64 o.ts, .int .i64 o.ta, .int .i64 o.fs, .int .i64 o.fa, .int .i64 o.ns, .int .i64 o.na, .int .i64 o.v, .bool o.en, .string o.tx]] w fun e w' => e = .returned (.bool (vop o)) ∧ Below w.heap.size w w' := by
  rw [vop7 o hk]
  have hO := fun w => operationOf7 o w hk
  have hV := fun w => valid7 o.i o.j o.ts o.ta w
  have hst := impl_ValidStamp o.i o.j
  have hq := opEq o.i o.j 7 o.ts o.ta 0 0 0 0 0 false ByteArray.empty o.i o.j 7 o.ts o.ta o.fs o.fa o.ns o.na o.v o.en o.tx
  rw [hk] at hO ⊢
  generalize eqO o.i o.j 7 o.ts o.ta 0 0 0 0 0 false ByteArray.empty o.i o.j 7 o.ts o.ta o.fs o.fa o.ns o.na o.v o.en o.tx = E at hq ⊢
  generalize (vref o.i o.j o.ts o.ta false) = V at hV ⊢
  have HO := Lib.hid hO
  have HV := Lib.hid hV
  clear hO hV hk
  have B0 : Below w.heap.size w (w.alloc (.cells #[.int .i64 o.i, .int .i64 o.j, .int .i64 7, .int .i64 o.ts, .int .i64 o.ta, .int .i64 o.fs, .int .i64 o.fa, .int .i64 o.ns, .int .i64 o.na, .int .i64 o.v, .bool o.en, .string o.tx] 63)) := (Below.refl _ _).alloc (Nat.le_refl _) _
  have hz0 : w.heap.size < (w.alloc (.cells #[.int .i64 o.i, .int .i64 o.j, .int .i64 7, .int .i64 o.ts, .int .i64 o.ta, .int .i64 o.fs, .int .i64 o.fa, .int .i64 o.ns, .int .i64 o.na, .int .i64 o.v, .bool o.en, .string o.tx] 63)).heap.size := by simp
  generalize vst o.i o.j = U at hst ⊢
  have HS := Lib.hid hst
  clear hst
  cases U
  · show Calls _ _ _ _ fun e w' => e = .returned (.bool false) ∧ _
    go_enter Try.func70, Try.ntmps70
    go_wp2_with fail
    refine (HO.out _).mono ?_
    rintro e w1 ⟨rfl, hb1⟩
    obtain ⟨B1, hz1, hc1⟩ := nextW B0 hz0 hb1
    go_wp2_with fail
    (first | go_region_with (first
      | (go_at_call 100; refine (HS.out _).mono ?_; rintro e w2 ⟨rfl, hb2⟩; obtain ⟨B2, hz2, hc2⟩ := nextW B1.drew hz1 hb2)
      | (go_at_call 152; refine (HV.out _).mono ?_; rintro e w3 ⟨rfl, hb3⟩; obtain ⟨B3, hz3, hc3⟩ := nextW B2 hz2 hb3)) | fail)
    all_goals
      go_wp2
      go_ret
      first | exact ⟨rfl, B3⟩ | exact ⟨rfl, B2⟩
  · cases V
    · show Calls _ _ _ _ fun e w' => e = .returned (.bool false) ∧ _
      go_enter Try.func70, Try.ntmps70
      go_wp2_with fail
      refine (HO.out _).mono ?_
      rintro e w1 ⟨rfl, hb1⟩
      obtain ⟨B1, hz1, hc1⟩ := nextW B0 hz0 hb1
      go_wp2_with fail
      (first | go_region_with (first
        | (go_at_call 100; refine (HS.out _).mono ?_; rintro e w2 ⟨rfl, hb2⟩; obtain ⟨B2, hz2, hc2⟩ := nextW B1.drew hz1 hb2)
        | (go_at_call 152; refine (HV.out _).mono ?_; rintro e w3 ⟨rfl, hb3⟩; obtain ⟨B3, hz3, hc3⟩ := nextW B2 hz2 hb3)) | fail)
      all_goals
        go_wp2
        go_ret
        first | exact ⟨rfl, B3⟩ | exact ⟨rfl, B2⟩
    · show Calls _ _ _ _ fun e w' => e = .returned (.bool E) ∧ _
      go_enter Try.func70, Try.ntmps70
      go_wp2_with fail
      refine (HO.out _).mono ?_
      rintro e w1 ⟨rfl, hb1⟩
      obtain ⟨B1, hz1, hc1⟩ := nextW B0 hz0 hb1
      go_wp2_with fail
      go_region_held3 (fun w' => Below w.heap.size w w' ∧ w.heap.size < w'.heap.size ∧ w'.cell? ⟨w.heap.size, 0, none⟩ = some (.int .i64 o.i) ∧ w'.cell? ⟨w.heap.size, 1, none⟩ = some (.int .i64 o.j) ∧ w'.cell? ⟨w.heap.size, 2, none⟩ = some (.int .i64 7) ∧ w'.cell? ⟨w.heap.size, 3, none⟩ = some (.int .i64 o.ts) ∧ w'.cell? ⟨w.heap.size, 4, none⟩ = some (.int .i64 o.ta) ∧ w'.cell? ⟨w.heap.size, 5, none⟩ = some (.int .i64 o.fs) ∧ w'.cell? ⟨w.heap.size, 6, none⟩ = some (.int .i64 o.fa) ∧ w'.cell? ⟨w.heap.size, 7, none⟩ = some (.int .i64 o.ns) ∧ w'.cell? ⟨w.heap.size, 8, none⟩ = some (.int .i64 o.na) ∧ w'.cell? ⟨w.heap.size, 9, none⟩ = some (.int .i64 o.v) ∧ w'.cell? ⟨w.heap.size, 10, none⟩ = some (.bool o.en) ∧ w'.cell? ⟨w.heap.size, 11, none⟩ = some (.string o.tx))
        (first | (refine ⟨B1.drew, hz1, ?_⟩; go_simp; done) | exact keepOp (by assumption) hb2 | exact keepOp (by assumption) hb3 | exact keepOp (by assumption) hb4)
        (first
          | (go_at_call 100; refine (HS.out _).mono ?_; rintro e w2 ⟨rfl, hb2⟩)
          | (go_at_call 152; refine (HV.out _).mono ?_; rintro e w2 ⟨rfl, hb3⟩)
          | (go_at_call 101; refine (opOf7 _ _ _ _ _).mono ?_; rintro e w2 ⟨rfl, hb4⟩))
      go_wp2
      go_ret
      exact ⟨rfl, And.left (by assumption)⟩

theorem vop8 (o : OpV) (hk : o.k = 8) : vop o = (vst o.i o.j && ((vref o.i o.j o.ts o.ta false && (vref o.i o.j o.fs o.fa false && (wordB o.tx.data.toList))) && eqO o.i o.j 8 o.ts o.ta o.fs o.fa 0 0 0 false o.tx o.i o.j 8 o.ts o.ta o.fs o.fa o.ns o.na o.v o.en o.tx)) := by
  have hb : ByteArray.empty.toList = ([] : List UInt8) := by decide +kernel
  have e1 : ∀ z : Int, ((0 : Int) == z) = decide (z = 0) := fun z => by rw [Bool.eq_iff_iff]; simp; exact ⟨Eq.symm, Eq.symm⟩
  have e2 : ∀ z : Int, (z == (0 : Int)) = decide (z = 0) := fun z => by rw [Bool.eq_iff_iff]; simp
  have e3 : ∀ z : Bool, (false == z) = !z := fun z => by cases z <;> rfl
  have e4 : ∀ l : List UInt8, (([] : List UInt8) == l) = l.isEmpty := fun l => by cases l <;> rfl
  simp only [vop, opKindOk, hk, eqO, zst, bareB, e1, e2, e3, beq_self_eq_true, Bool.true_and, Bool.and_assoc, reduceIte, Int.reduceEq]
  try ac_rfl

set_option maxRecDepth 100000 in
set_option maxHeartbeats 4000000 in
theorem impl_ValidOp8 (o : OpV) (w : World) (hk : o.k = 8) (hs : o.tx.size ≤ maxLen) :
    Calls Try.prog 70 #[.agg #[.int .i64 o.i, .int .i64 o.j, .int .i64 o.k, .int .i64 o.ts, .int .i64 o.ta, .int .i64 o.fs, .int .i64 o.fa, .int .i64 o.ns, .int .i64 o.na, .int .i64 o.v, .bool o.en, .string o.tx]] w fun e w' => e = .returned (.bool (vop o)) ∧ Below w.heap.size w w' := by
  rw [vop8 o hk]
  have hO := fun w => operationOf8 o w hk
  have hV := fun w => valid8 o.i o.j o.ts o.ta o.fs o.fa o.tx w hs
  have hst := impl_ValidStamp o.i o.j
  have hq := opEq o.i o.j 8 o.ts o.ta o.fs o.fa 0 0 0 false o.tx o.i o.j 8 o.ts o.ta o.fs o.fa o.ns o.na o.v o.en o.tx
  rw [hk] at hO ⊢
  generalize eqO o.i o.j 8 o.ts o.ta o.fs o.fa 0 0 0 false o.tx o.i o.j 8 o.ts o.ta o.fs o.fa o.ns o.na o.v o.en o.tx = E at hq ⊢
  generalize (vref o.i o.j o.ts o.ta false && (vref o.i o.j o.fs o.fa false && (wordB o.tx.data.toList))) = V at hV ⊢
  have HO := Lib.hid hO
  have HV := Lib.hid hV
  clear hO hV hk
  have B0 : Below w.heap.size w (w.alloc (.cells #[.int .i64 o.i, .int .i64 o.j, .int .i64 8, .int .i64 o.ts, .int .i64 o.ta, .int .i64 o.fs, .int .i64 o.fa, .int .i64 o.ns, .int .i64 o.na, .int .i64 o.v, .bool o.en, .string o.tx] 63)) := (Below.refl _ _).alloc (Nat.le_refl _) _
  have hz0 : w.heap.size < (w.alloc (.cells #[.int .i64 o.i, .int .i64 o.j, .int .i64 8, .int .i64 o.ts, .int .i64 o.ta, .int .i64 o.fs, .int .i64 o.fa, .int .i64 o.ns, .int .i64 o.na, .int .i64 o.v, .bool o.en, .string o.tx] 63)).heap.size := by simp
  generalize vst o.i o.j = U at hst ⊢
  have HS := Lib.hid hst
  clear hst
  cases U
  · show Calls _ _ _ _ fun e w' => e = .returned (.bool false) ∧ _
    go_enter Try.func70, Try.ntmps70
    go_wp2_with fail
    refine (HO.out _).mono ?_
    rintro e w1 ⟨rfl, hb1⟩
    obtain ⟨B1, hz1, hc1⟩ := nextW B0 hz0 hb1
    go_wp2_with fail
    (first | go_region_with (first
      | (go_at_call 100; refine (HS.out _).mono ?_; rintro e w2 ⟨rfl, hb2⟩; obtain ⟨B2, hz2, hc2⟩ := nextW B1.drew hz1 hb2)
      | (go_at_call 156; refine (HV.out _).mono ?_; rintro e w3 ⟨rfl, hb3⟩; obtain ⟨B3, hz3, hc3⟩ := nextW B2 hz2 hb3)) | fail)
    all_goals
      go_wp2
      go_ret
      first | exact ⟨rfl, B3⟩ | exact ⟨rfl, B2⟩
  · cases V
    · show Calls _ _ _ _ fun e w' => e = .returned (.bool false) ∧ _
      go_enter Try.func70, Try.ntmps70
      go_wp2_with fail
      refine (HO.out _).mono ?_
      rintro e w1 ⟨rfl, hb1⟩
      obtain ⟨B1, hz1, hc1⟩ := nextW B0 hz0 hb1
      go_wp2_with fail
      (first | go_region_with (first
        | (go_at_call 100; refine (HS.out _).mono ?_; rintro e w2 ⟨rfl, hb2⟩; obtain ⟨B2, hz2, hc2⟩ := nextW B1.drew hz1 hb2)
        | (go_at_call 156; refine (HV.out _).mono ?_; rintro e w3 ⟨rfl, hb3⟩; obtain ⟨B3, hz3, hc3⟩ := nextW B2 hz2 hb3)) | fail)
      all_goals
        go_wp2
        go_ret
        first | exact ⟨rfl, B3⟩ | exact ⟨rfl, B2⟩
    · show Calls _ _ _ _ fun e w' => e = .returned (.bool E) ∧ _
      go_enter Try.func70, Try.ntmps70
      go_wp2_with fail
      refine (HO.out _).mono ?_
      rintro e w1 ⟨rfl, hb1⟩
      obtain ⟨B1, hz1, hc1⟩ := nextW B0 hz0 hb1
      go_wp2_with fail
      go_region_held3 (fun w' => Below w.heap.size w w' ∧ w.heap.size < w'.heap.size ∧ w'.cell? ⟨w.heap.size, 0, none⟩ = some (.int .i64 o.i) ∧ w'.cell? ⟨w.heap.size, 1, none⟩ = some (.int .i64 o.j) ∧ w'.cell? ⟨w.heap.size, 2, none⟩ = some (.int .i64 8) ∧ w'.cell? ⟨w.heap.size, 3, none⟩ = some (.int .i64 o.ts) ∧ w'.cell? ⟨w.heap.size, 4, none⟩ = some (.int .i64 o.ta) ∧ w'.cell? ⟨w.heap.size, 5, none⟩ = some (.int .i64 o.fs) ∧ w'.cell? ⟨w.heap.size, 6, none⟩ = some (.int .i64 o.fa) ∧ w'.cell? ⟨w.heap.size, 7, none⟩ = some (.int .i64 o.ns) ∧ w'.cell? ⟨w.heap.size, 8, none⟩ = some (.int .i64 o.na) ∧ w'.cell? ⟨w.heap.size, 9, none⟩ = some (.int .i64 o.v) ∧ w'.cell? ⟨w.heap.size, 10, none⟩ = some (.bool o.en) ∧ w'.cell? ⟨w.heap.size, 11, none⟩ = some (.string o.tx))
        (first | (refine ⟨B1.drew, hz1, ?_⟩; go_simp; done) | exact keepOp (by assumption) hb2 | exact keepOp (by assumption) hb3 | exact keepOp (by assumption) hb4)
        (first
          | (go_at_call 100; refine (HS.out _).mono ?_; rintro e w2 ⟨rfl, hb2⟩)
          | (go_at_call 156; refine (HV.out _).mono ?_; rintro e w2 ⟨rfl, hb3⟩)
          | (go_at_call 101; refine (opOf8 _ _ _ _ _ _ _ _).mono ?_; rintro e w2 ⟨rfl, hb4⟩))
      go_wp2
      go_ret
      exact ⟨rfl, And.left (by assumption)⟩

end Go.Proofs.Ytdbnflgckcjlcaa.OpG4
