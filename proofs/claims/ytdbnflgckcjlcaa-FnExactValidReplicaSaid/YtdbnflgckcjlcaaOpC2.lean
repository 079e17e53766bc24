/-
  Contracts of the model's validOp at single kinds. For every operation whose text is a Go string; no condition.
-/
import Derived.Test.YtdbnflgckcjlcaaK1
namespace Go.Proofs.Ytdbnflgckcjlcaa.OpC2
open Go.RowKit Go.Proofs.Ytdbnflgckcjlcaa.Base Go.Proofs.Ytdbnflgckcjlcaa.St Go.Proofs.Ytdbnflgckcjlcaa.StB Go.Proofs.Ytdbnflgckcjlcaa.OpA Go.Proofs.Ytdbnflgckcjlcaa.OpW Go.Proofs.Ytdbnflgckcjlcaa.OpB
set_option linter.unusedVariables false

set_option maxRecDepth 100000 in
set_option maxHeartbeats 4000000 in
theorem spec_validOp3 (o : OpV) (w : World) (hk : o.k = 3) (hs : o.tx.size ≤ maxLen) :
    Calls Try.prog 60 #[.agg #[.int .i64 o.i, .int .i64 o.j, .int .i64 o.k, .int .i64 o.ts, .int .i64 o.ta, .int .i64 o.fs, .int .i64 o.fa, .int .i64 o.ns, .int .i64 o.na, .int .i64 o.v, .bool o.en, .string o.tx]] w fun e w' => e = .returned (.bool (vop o)) ∧ Below w.heap.size w w' := by
  have hv : vop o = (vst o.i o.j && ((vref o.i o.j o.ts o.ta false) && ((vref o.i o.j o.fs o.fa false) && ((zst o.ns o.na) && ((inR o.v 1 3) && (bareB o.tx)))))) := by simp [vop, opKindOk, hk]
  have HVR := Lib.hid (spec_validRef o)
  rw [hk] at HVR
  rw [hv, hk]
  clear hv
  generalize o.en = en at HVR ⊢
  have B0 : Below w.heap.size w (w.alloc (.cells #[.int .i64 o.i, .int .i64 o.j, .int .i64 3, .int .i64 o.ts, .int .i64 o.ta, .int .i64 o.fs, .int .i64 o.fa, .int .i64 o.ns, .int .i64 o.na, .int .i64 o.v, .bool en, .string o.tx] 63)) := (Below.refl _ _).alloc (Nat.le_refl _) _
  have hz0 : w.heap.size < (w.alloc (.cells #[.int .i64 o.i, .int .i64 o.j, .int .i64 3, .int .i64 o.ts, .int .i64 o.ta, .int .i64 o.fs, .int .i64 o.fa, .int .i64 o.ns, .int .i64 o.na, .int .i64 o.v, .bool en, .string o.tx] 63)).heap.size := by simp
  clear hk
  cases h0 : vst o.i o.j
  · go_enter Try.func60, Try.ntmps60
    go_wp2_with (first
      | (go_at_call 86; refine (spec_validStamp _ _ _).mono ?_; rintro e w1 ⟨rfl, hb1⟩; obtain ⟨B1, hz1, hc1⟩ := nextW (by assumption) (by assumption) hb1)
      | (go_at_call 87; refine (HVR.out _ _ _ _).mono ?_; rintro e w1 ⟨rfl, hb1⟩; obtain ⟨B1, hz1, hc1⟩ := nextW (by assumption) (by assumption) hb1)
      | (go_at_call 88; refine (spec_isZero _ _ _).mono ?_; rintro e w1 ⟨rfl, hb1⟩; obtain ⟨B1, hz1, hc1⟩ := nextW (by assumption) (by assumption) hb1)
      | (go_at_call 81; refine (spec_inRange _ _ _ _).mono ?_; rintro e w' ⟨rfl, rfl⟩)
      | (go_at_call 89; refine (spec_validWord _ _ hs).mono ?_; rintro e w' ⟨rfl, rfl⟩))
    go_ret
    exact ⟨ret_bool (by first | (simp; done) | (simp [bareB]; done)), by assumption⟩
  · cases h1 : (vref o.i o.j o.ts o.ta false)
    · go_enter Try.func60, Try.ntmps60
      go_wp2_with (first
        | (go_at_call 86; refine (spec_validStamp _ _ _).mono ?_; rintro e w1 ⟨rfl, hb1⟩; obtain ⟨B1, hz1, hc1⟩ := nextW (by assumption) (by assumption) hb1)
        | (go_at_call 87; refine (HVR.out _ _ _ _).mono ?_; rintro e w1 ⟨rfl, hb1⟩; obtain ⟨B1, hz1, hc1⟩ := nextW (by assumption) (by assumption) hb1)
        | (go_at_call 88; refine (spec_isZero _ _ _).mono ?_; rintro e w1 ⟨rfl, hb1⟩; obtain ⟨B1, hz1, hc1⟩ := nextW (by assumption) (by assumption) hb1)
        | (go_at_call 81; refine (spec_inRange _ _ _ _).mono ?_; rintro e w' ⟨rfl, rfl⟩)
        | (go_at_call 89; refine (spec_validWord _ _ hs).mono ?_; rintro e w' ⟨rfl, rfl⟩))
      go_ret
      exact ⟨ret_bool (by first | (simp; done) | (simp [bareB]; done)), by assumption⟩
    · cases h2 : (vref o.i o.j o.fs o.fa false)
      · go_enter Try.func60, Try.ntmps60
        go_wp2_with (first
          | (go_at_call 86; refine (spec_validStamp _ _ _).mono ?_; rintro e w1 ⟨rfl, hb1⟩; obtain ⟨B1, hz1, hc1⟩ := nextW (by assumption) (by assumption) hb1)
          | (go_at_call 87; refine (HVR.out _ _ _ _).mono ?_; rintro e w1 ⟨rfl, hb1⟩; obtain ⟨B1, hz1, hc1⟩ := nextW (by assumption) (by assumption) hb1)
          | (go_at_call 88; refine (spec_isZero _ _ _).mono ?_; rintro e w1 ⟨rfl, hb1⟩; obtain ⟨B1, hz1, hc1⟩ := nextW (by assumption) (by assumption) hb1)
          | (go_at_call 81; refine (spec_inRange _ _ _ _).mono ?_; rintro e w' ⟨rfl, rfl⟩)
          | (go_at_call 89; refine (spec_validWord _ _ hs).mono ?_; rintro e w' ⟨rfl, rfl⟩))
        go_ret
        exact ⟨ret_bool (by first | (simp; done) | (simp [bareB]; done)), by assumption⟩
      · cases h3 : (zst o.ns o.na)
        · go_enter Try.func60, Try.ntmps60
          go_wp2_with (first
            | (go_at_call 86; refine (spec_validStamp _ _ _).mono ?_; rintro e w1 ⟨rfl, hb1⟩; obtain ⟨B1, hz1, hc1⟩ := nextW (by assumption) (by assumption) hb1)
            | (go_at_call 87; refine (HVR.out _ _ _ _).mono ?_; rintro e w1 ⟨rfl, hb1⟩; obtain ⟨B1, hz1, hc1⟩ := nextW (by assumption) (by assumption) hb1)
            | (go_at_call 88; refine (spec_isZero _ _ _).mono ?_; rintro e w1 ⟨rfl, hb1⟩; obtain ⟨B1, hz1, hc1⟩ := nextW (by assumption) (by assumption) hb1)
            | (go_at_call 81; refine (spec_inRange _ _ _ _).mono ?_; rintro e w' ⟨rfl, rfl⟩)
            | (go_at_call 89; refine (spec_validWord _ _ hs).mono ?_; rintro e w' ⟨rfl, rfl⟩))
          go_ret
          exact ⟨ret_bool (by first | (simp; done) | (simp [bareB]; done)), by assumption⟩
        · cases h4 : (inR o.v 1 3)
          · go_enter Try.func60, Try.ntmps60
            go_wp2_with (first
              | (go_at_call 86; refine (spec_validStamp _ _ _).mono ?_; rintro e w1 ⟨rfl, hb1⟩; obtain ⟨B1, hz1, hc1⟩ := nextW (by assumption) (by assumption) hb1)
              | (go_at_call 87; refine (HVR.out _ _ _ _).mono ?_; rintro e w1 ⟨rfl, hb1⟩; obtain ⟨B1, hz1, hc1⟩ := nextW (by assumption) (by assumption) hb1)
              | (go_at_call 88; refine (spec_isZero _ _ _).mono ?_; rintro e w1 ⟨rfl, hb1⟩; obtain ⟨B1, hz1, hc1⟩ := nextW (by assumption) (by assumption) hb1)
              | (go_at_call 81; refine (spec_inRange _ _ _ _).mono ?_; rintro e w' ⟨rfl, rfl⟩)
              | (go_at_call 89; refine (spec_validWord _ _ hs).mono ?_; rintro e w' ⟨rfl, rfl⟩))
            go_ret
            exact ⟨ret_bool (by first | (simp; done) | (simp [bareB]; done)), by assumption⟩
          · go_enter Try.func60, Try.ntmps60
            go_wp2_with (first
              | (go_at_call 86; refine (spec_validStamp _ _ _).mono ?_; rintro e w1 ⟨rfl, hb1⟩; obtain ⟨B1, hz1, hc1⟩ := nextW (by assumption) (by assumption) hb1)
              | (go_at_call 87; refine (HVR.out _ _ _ _).mono ?_; rintro e w1 ⟨rfl, hb1⟩; obtain ⟨B1, hz1, hc1⟩ := nextW (by assumption) (by assumption) hb1)
              | (go_at_call 88; refine (spec_isZero _ _ _).mono ?_; rintro e w1 ⟨rfl, hb1⟩; obtain ⟨B1, hz1, hc1⟩ := nextW (by assumption) (by assumption) hb1)
              | (go_at_call 81; refine (spec_inRange _ _ _ _).mono ?_; rintro e w' ⟨rfl, rfl⟩)
              | (go_at_call 89; refine (spec_validWord _ _ hs).mono ?_; rintro e w' ⟨rfl, rfl⟩))
            go_ret
            exact ⟨ret_bool (by first | (simp; done) | (simp [bareB]; done)), by assumption⟩

set_option maxRecDepth 100000 in
set_option maxHeartbeats 4000000 in
theorem spec_validOp4 (o : OpV) (w : World) (hk : o.k = 4) (hs : o.tx.size ≤ maxLen) :
    Calls Try.prog 60 #[.agg #[.int .i64 o.i, .int .i64 o.j, .int .i64 o.k, .int .i64 o.ts, .int .i64 o.ta, .int .i64 o.fs, .int .i64 o.fa, .int .i64 o.ns, .int .i64 o.na, .int .i64 o.v, .bool o.en, .string o.tx]] w fun e w' => e = .returned (.bool (vop o)) ∧ Below w.heap.size w w' := by
  have hv : vop o = (vst o.i o.j && ((vref o.i o.j o.ts o.ta true) && ((vref o.i o.j o.fs o.fa true) && ((zst o.ns o.na) && ((inR o.v 1 4) && ((!o.en) && (bareB o.tx))))))) := by simp [vop, opKindOk, hk]
  have HVR := Lib.hid (spec_validRef o)
  rw [hk] at HVR
  rw [hv, hk]
  clear hv
  generalize o.en = en at HVR ⊢
  have B0 : Below w.heap.size w (w.alloc (.cells #[.int .i64 o.i, .int .i64 o.j, .int .i64 4, .int .i64 o.ts, .int .i64 o.ta, .int .i64 o.fs, .int .i64 o.fa, .int .i64 o.ns, .int .i64 o.na, .int .i64 o.v, .bool en, .string o.tx] 63)) := (Below.refl _ _).alloc (Nat.le_refl _) _
  have hz0 : w.heap.size < (w.alloc (.cells #[.int .i64 o.i, .int .i64 o.j, .int .i64 4, .int .i64 o.ts, .int .i64 o.ta, .int .i64 o.fs, .int .i64 o.fa, .int .i64 o.ns, .int .i64 o.na, .int .i64 o.v, .bool en, .string o.tx] 63)).heap.size := by simp
  clear hk
  cases h0 : vst o.i o.j
  · go_enter Try.func60, Try.ntmps60
    go_wp2_with (first
      | (go_at_call 86; refine (spec_validStamp _ _ _).mono ?_; rintro e w1 ⟨rfl, hb1⟩; obtain ⟨B1, hz1, hc1⟩ := nextW (by assumption) (by assumption) hb1)
      | (go_at_call 87; refine (HVR.out _ _ _ _).mono ?_; rintro e w1 ⟨rfl, hb1⟩; obtain ⟨B1, hz1, hc1⟩ := nextW (by assumption) (by assumption) hb1)
      | (go_at_call 88; refine (spec_isZero _ _ _).mono ?_; rintro e w1 ⟨rfl, hb1⟩; obtain ⟨B1, hz1, hc1⟩ := nextW (by assumption) (by assumption) hb1)
      | (go_at_call 81; refine (spec_inRange _ _ _ _).mono ?_; rintro e w' ⟨rfl, rfl⟩)
      | (go_at_call 89; refine (spec_validWord _ _ hs).mono ?_; rintro e w' ⟨rfl, rfl⟩))
    go_ret
    exact ⟨ret_bool (by first | (simp; done) | (simp [bareB]; done)), by assumption⟩
  · cases h1 : (vref o.i o.j o.ts o.ta true)
    · go_enter Try.func60, Try.ntmps60
      go_wp2_with (first
        | (go_at_call 86; refine (spec_validStamp _ _ _).mono ?_; rintro e w1 ⟨rfl, hb1⟩; obtain ⟨B1, hz1, hc1⟩ := nextW (by assumption) (by assumption) hb1)
        | (go_at_call 87; refine (HVR.out _ _ _ _).mono ?_; rintro e w1 ⟨rfl, hb1⟩; obtain ⟨B1, hz1, hc1⟩ := nextW (by assumption) (by assumption) hb1)
        | (go_at_call 88; refine (spec_isZero _ _ _).mono ?_; rintro e w1 ⟨rfl, hb1⟩; obtain ⟨B1, hz1, hc1⟩ := nextW (by assumption) (by assumption) hb1)
        | (go_at_call 81; refine (spec_inRange _ _ _ _).mono ?_; rintro e w' ⟨rfl, rfl⟩)
        | (go_at_call 89; refine (spec_validWord _ _ hs).mono ?_; rintro e w' ⟨rfl, rfl⟩))
      go_ret
      exact ⟨ret_bool (by first | (simp; done) | (simp [bareB]; done)), by assumption⟩
    · cases h2 : (vref o.i o.j o.fs o.fa true)
      · go_enter Try.func60, Try.ntmps60
        go_wp2_with (first
          | (go_at_call 86; refine (spec_validStamp _ _ _).mono ?_; rintro e w1 ⟨rfl, hb1⟩; obtain ⟨B1, hz1, hc1⟩ := nextW (by assumption) (by assumption) hb1)
          | (go_at_call 87; refine (HVR.out _ _ _ _).mono ?_; rintro e w1 ⟨rfl, hb1⟩; obtain ⟨B1, hz1, hc1⟩ := nextW (by assumption) (by assumption) hb1)
          | (go_at_call 88; refine (spec_isZero _ _ _).mono ?_; rintro e w1 ⟨rfl, hb1⟩; obtain ⟨B1, hz1, hc1⟩ := nextW (by assumption) (by assumption) hb1)
          | (go_at_call 81; refine (spec_inRange _ _ _ _).mono ?_; rintro e w' ⟨rfl, rfl⟩)
          | (go_at_call 89; refine (spec_validWord _ _ hs).mono ?_; rintro e w' ⟨rfl, rfl⟩))
        go_ret
        exact ⟨ret_bool (by first | (simp; done) | (simp [bareB]; done)), by assumption⟩
      · cases h3 : (zst o.ns o.na)
        · go_enter Try.func60, Try.ntmps60
          go_wp2_with (first
            | (go_at_call 86; refine (spec_validStamp _ _ _).mono ?_; rintro e w1 ⟨rfl, hb1⟩; obtain ⟨B1, hz1, hc1⟩ := nextW (by assumption) (by assumption) hb1)
            | (go_at_call 87; refine (HVR.out _ _ _ _).mono ?_; rintro e w1 ⟨rfl, hb1⟩; obtain ⟨B1, hz1, hc1⟩ := nextW (by assumption) (by assumption) hb1)
            | (go_at_call 88; refine (spec_isZero _ _ _).mono ?_; rintro e w1 ⟨rfl, hb1⟩; obtain ⟨B1, hz1, hc1⟩ := nextW (by assumption) (by assumption) hb1)
            | (go_at_call 81; refine (spec_inRange _ _ _ _).mono ?_; rintro e w' ⟨rfl, rfl⟩)
            | (go_at_call 89; refine (spec_validWord _ _ hs).mono ?_; rintro e w' ⟨rfl, rfl⟩))
          go_ret
          exact ⟨ret_bool (by first | (simp; done) | (simp [bareB]; done)), by assumption⟩
        · cases h4 : (inR o.v 1 4)
          · go_enter Try.func60, Try.ntmps60
            go_wp2_with (first
              | (go_at_call 86; refine (spec_validStamp _ _ _).mono ?_; rintro e w1 ⟨rfl, hb1⟩; obtain ⟨B1, hz1, hc1⟩ := nextW (by assumption) (by assumption) hb1)
              | (go_at_call 87; refine (HVR.out _ _ _ _).mono ?_; rintro e w1 ⟨rfl, hb1⟩; obtain ⟨B1, hz1, hc1⟩ := nextW (by assumption) (by assumption) hb1)
              | (go_at_call 88; refine (spec_isZero _ _ _).mono ?_; rintro e w1 ⟨rfl, hb1⟩; obtain ⟨B1, hz1, hc1⟩ := nextW (by assumption) (by assumption) hb1)
              | (go_at_call 81; refine (spec_inRange _ _ _ _).mono ?_; rintro e w' ⟨rfl, rfl⟩)
              | (go_at_call 89; refine (spec_validWord _ _ hs).mono ?_; rintro e w' ⟨rfl, rfl⟩))
            go_ret
            exact ⟨ret_bool (by first | (simp; done) | (simp [bareB]; done)), by assumption⟩
          · cases en
            rotate_left
            · go_enter Try.func60, Try.ntmps60
              go_wp2_with (first
                | (go_at_call 86; refine (spec_validStamp _ _ _).mono ?_; rintro e w1 ⟨rfl, hb1⟩; obtain ⟨B1, hz1, hc1⟩ := nextW (by assumption) (by assumption) hb1)
                | (go_at_call 87; refine (HVR.out _ _ _ _).mono ?_; rintro e w1 ⟨rfl, hb1⟩; obtain ⟨B1, hz1, hc1⟩ := nextW (by assumption) (by assumption) hb1)
                | (go_at_call 88; refine (spec_isZero _ _ _).mono ?_; rintro e w1 ⟨rfl, hb1⟩; obtain ⟨B1, hz1, hc1⟩ := nextW (by assumption) (by assumption) hb1)
                | (go_at_call 81; refine (spec_inRange _ _ _ _).mono ?_; rintro e w' ⟨rfl, rfl⟩)
                | (go_at_call 89; refine (spec_validWord _ _ hs).mono ?_; rintro e w' ⟨rfl, rfl⟩))
              go_ret
              exact ⟨ret_bool (by first | (simp; done) | (simp [bareB]; done)), by assumption⟩
            · go_enter Try.func60, Try.ntmps60
              go_wp2_with (first
                | (go_at_call 86; refine (spec_validStamp _ _ _).mono ?_; rintro e w1 ⟨rfl, hb1⟩; obtain ⟨B1, hz1, hc1⟩ := nextW (by assumption) (by assumption) hb1)
                | (go_at_call 87; refine (HVR.out _ _ _ _).mono ?_; rintro e w1 ⟨rfl, hb1⟩; obtain ⟨B1, hz1, hc1⟩ := nextW (by assumption) (by assumption) hb1)
                | (go_at_call 88; refine (spec_isZero _ _ _).mono ?_; rintro e w1 ⟨rfl, hb1⟩; obtain ⟨B1, hz1, hc1⟩ := nextW (by assumption) (by assumption) hb1)
                | (go_at_call 81; refine (spec_inRange _ _ _ _).mono ?_; rintro e w' ⟨rfl, rfl⟩)
                | (go_at_call 89; refine (spec_validWord _ _ hs).mono ?_; rintro e w' ⟨rfl, rfl⟩))
              go_ret
              exact ⟨ret_bool (by first | (simp; done) | (simp [bareB]; done)), by assumption⟩

end Go.Proofs.Ytdbnflgckcjlcaa.OpC2
