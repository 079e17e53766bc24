/-
  LogPrefix and LogMissing of the program: contracts. For slices that read as lists of at most 2^20 entries.
-/
import Derived.Test.YtkkeaimoplkliaaLgR
import Derived.Test.YtkkeaimoplkliaaLgH
namespace Go.Proofs.Ytkkeaimoplkliaa.LgS
open Go.RowKit Go.Proofs.Ytkkeaimoplkliaa.Base Go.Proofs.Ytkkeaimoplkliaa.St Go.Proofs.Ytkkeaimoplkliaa.StB Go.Proofs.Ytkkeaimoplkliaa.Vec Go.Proofs.Ytkkeaimoplkliaa.Row Go.Proofs.Ytkkeaimoplkliaa.VecA Go.Proofs.Ytkkeaimoplkliaa.OpA Go.Proofs.Ytkkeaimoplkliaa.OpB Go.Proofs.Ytkkeaimoplkliaa.LgA Go.Proofs.Ytkkeaimoplkliaa.LgB Go.Proofs.Ytkkeaimoplkliaa.LgC Go.Proofs.Ytkkeaimoplkliaa.LgF Go.Proofs.Ytkkeaimoplkliaa.LgG Go.Proofs.Ytkkeaimoplkliaa.LgH Go.Proofs.Ytkkeaimoplkliaa.LgI Go.Proofs.Ytkkeaimoplkliaa.LgP Go.Proofs.Ytkkeaimoplkliaa.LgQ Go.Proofs.Ytkkeaimoplkliaa.LgR
set_option linter.unusedVariables false

theorem enP : ∀ (args : Array Value) (W : World), (callFunc 73 args).run Try.prog W = .ok (.enter 73 args) W := enters Try.func73 (by kernel_rfl) (by kernel_rfl)
theorem enM : ∀ (args : Array Value) (W : World), (callFunc 76 args).run Try.prog W = .ok (.enter 76 args) W := enters Try.func76 (by kernel_rfl) (by kernel_rfl)
theorem cells36 : Try.prog.cellsOf 36 = 1 := by kernel_rfl
/-- The items of the ordered set that filter returned. -/
theorem field0 (a : Option Addr) (n c : Nat) (F : Value) (w : World) : (Instr.field 75 (.agg #[.slice a n c, F]) 0).run Try.prog w = .ok (.slice a n c) w := by
  simp [Instr.field, run_underlying Try.underlying75, asAgg, part, go_sem]

theorem vv3 {zs : List Int} (h : vv zs = true) : ∃ x y z, zs = [x, y, z] := by
  have h3 : zs.length = 3 := by simp [vv] at h; exact h.2
  match zs, h3 with
  | [x, y, z], _ => exact ⟨x, y, z, rfl⟩
theorem ent3 {x y z : Int} (h : vv [x, y, z] = true) : ent [x, y, z] 0 = x ∧ ent [x, y, z] 1 = y ∧ ent [x, y, z] 2 = z := by simp [ent, h]
theorem vst_j {s a : Int} (h : vst s a = true) : 0 ≤ a ∧ a ≤ 2 := ((vst_iff s a).1 h).2

set_option maxRecDepth 100000 in
set_option maxHeartbeats 1000000 in
theorem impl_LogPrefix (a ad : Option Addr) (c cv : Nat) (os : List OpV) (zs : List Int) (w : World) (hr : RdO w a os) (hz : Rd w ad zs) (hl : os.length ≤ 1048576) (hl' : zs.length ≤ 1048576) (ht : ∀ k, k < os.length → (os.getD k zop).tx.size ≤ maxLen) :
    Calls Try.prog 37 #[.slice a os.length c, .slice ad zs.length cv] w (GivesO w (pfx os zs)) := by
  have HV := Lib.hid (fun W (h : Below w.heap.size w W) => impl_ValidLog ivop a c os W (hr.below h) hl ht)
  have HVV := Lib.hid (vectorOf ad cv zs w hz hl')
  have HR := Lib.hid hr
  have hx : pfx os zs = if vlog os && vv zs then keepTo (con zs) os os.length else [] := rfl
  rw [hx]
  obtain ⟨q, hq⟩ : ∃ q, vv zs = q := ⟨_, rfl⟩
  rw [hq] at HVV
  rw [hq]
  cases q
  · have e0 : ∀ i, ent zs i = 0 := fun i => by simp [ent, hq]
    rw [e0, e0, e0] at HVV
    clear e0 hr hz ht hq hx
    rw [Bool.and_false]
    go_enter Try.func37, Try.ntmps37
    go_wp2_with fail
    refine HVV.out.mono ?_
    rintro e w1 ⟨rfl, hb1⟩
    have hz1 := hb1.size
    go_wp2
    go_ret
    exact GivesO.from (hb1.alloc hz1 _) (givesO_nil _)
  · obtain ⟨x, y, z, rfl⟩ := vv3 hq
    obtain ⟨e0, e1, e2⟩ := ent3 hq
    rw [e0, e1, e2] at HVV
    rw [Bool.and_true]
    obtain ⟨p, hp⟩ : ∃ p, vlog os = p := ⟨_, rfl⟩
    rw [hp] at HV
    rw [hp]
    have HP := Lib.hid hp
    clear e0 e1 e2 hr hz ht hq hx hp
    cases p
    · go_enter Try.func37, Try.ntmps37
      go_wp2_with fail
      refine HVV.out.mono ?_
      rintro e w1 ⟨rfl, hb1⟩
      have hz1 := hb1.size
      have hB1 := hb1.alloc hz1 (.cells #[.int .i64 x, .int .i64 y, .int .i64 z] 84)
      go_wp2_with fail
      refine (HV.out _ hB1).mono ?_
      rintro e w2 ⟨rfl, hb2⟩
      go_wp2
      go_ret
      exact GivesO.from (hB1.trans (hb2.mono hB1.size)) (givesO_nil _)
    · go_enter Try.func37, Try.ntmps37
      go_wp2_with fail
      refine HVV.out.mono ?_
      rintro e w1 ⟨rfl, hb1⟩
      have hz1 := hb1.size
      have hB1 := hb1.alloc hz1 (.cells #[.int .i64 x, .int .i64 y, .int .i64 z] 84)
      have c0 : (w1.alloc (.cells #[.int .i64 x, .int .i64 y, .int .i64 z] 84)).cell? ⟨w1.heap.size, 0, none⟩ = some (.int .i64 x) := by simp [go_sem]
      have c1 : (w1.alloc (.cells #[.int .i64 x, .int .i64 y, .int .i64 z] 84)).cell? ⟨w1.heap.size, 1, none⟩ = some (.int .i64 y) := by simp [go_sem]
      have c2 : (w1.alloc (.cells #[.int .i64 x, .int .i64 y, .int .i64 z] 84)).cell? ⟨w1.heap.size, 2, none⟩ = some (.int .i64 z) := by simp [go_sem]
      have hz2 : w1.heap.size < (w1.alloc (.cells #[.int .i64 x, .int .i64 y, .int .i64 z] 84)).heap.size := by simp
      have HB1 := Lib.hid hB1
      have HC0 := Lib.hid c0
      have HC1 := Lib.hid c1
      have HC2 := Lib.hid c2
      have HZ2 := Lib.hid hz2
      clear c0 c1 c2 hB1 hz2
      go_wp2_with fail
      refine (HV.out _ HB1.out).mono ?_
      rintro e w2 ⟨rfl, hb2⟩
      have hB2 := HB1.out.trans (hb2.mono HB1.out.size)
      have hz3 := hb2.size
      go_wp2_with fail
      refine (opSet _ _ _ _).mono ?_
      rintro e w3 ⟨rfl, hb3⟩
      have hB3 := hB2.trans (hb3.mono hB2.size)
      have hz4 := hb3.size
      have hz5 : w1.heap.size < w2.heap.size := Nat.lt_of_lt_of_le HZ2.out hz3
      go_wp2_with fail
      refine (filter 73 ⟨w1.heap.size, 0, none⟩ (con [x, y, z]) a c os w3 (HR.out.below hB3) hl (allTo_of HP.out) enP (fun o W hW hst => ?_)).mono ?_
      · have cc : ∀ i v, (w1.alloc (.cells #[.int .i64 x, .int .i64 y, .int .i64 z] 84)).cell? ⟨w1.heap.size, i, none⟩ = some v → W.cell? ⟨w1.heap.size, i, none⟩ = some v := fun i v h =>
          (hW.cell (p := ⟨w1.heap.size, i, none⟩) (by show w1.heap.size < _; omega)).trans ((hb3.cell (p := ⟨w1.heap.size, i, none⟩) hz5).trans ((hb2.cell (p := ⟨w1.heap.size, i, none⟩) HZ2.out).trans h))
        exact keepP x y z o w1.heap.size W (cc 0 _ HC0.out) (cc 1 _ HC1.out) (cc 2 _ HC2.out) (vst_j hst)
      · rintro e w4 ⟨v, rfl, hown, hb4⟩
        have hB4 := hB3.trans (hb4.mono hB3.size)
        obtain ⟨av, cv', rfl, _⟩ := ownedO hown
        have hfd := field0 av (keepTo (con [x, y, z]) os os.length).length cv' (.func (.func 92) #[] #[])
        go_wp2
        go_ret
        exact (OwnsO.lower hown hB3.size).gives hB4

set_option maxRecDepth 100000 in
set_option maxHeartbeats 1000000 in
theorem impl_LogMissing (a ad : Option Addr) (c cv : Nat) (os : List OpV) (zs : List Int) (w : World) (hr : RdO w a os) (hz : Rd w ad zs) (hl : os.length ≤ 1048576) (hl' : zs.length ≤ 1048576) (ht : ∀ k, k < os.length → (os.getD k zop).tx.size ≤ maxLen) :
    Calls Try.prog 39 #[.slice a os.length c, .slice ad zs.length cv] w (GivesO w (mis os zs)) := by
  have HV := Lib.hid (fun W (h : Below w.heap.size w W) => impl_ValidLog ivop a c os W (hr.below h) hl ht)
  have HVV := Lib.hid (vectorOf ad cv zs w hz hl')
  have HR := Lib.hid hr
  have hx : mis os zs = if vlog os && vv zs then keepTo (fun o => !con zs o) os os.length else [] := rfl
  rw [hx]
  obtain ⟨q, hq⟩ : ∃ q, vv zs = q := ⟨_, rfl⟩
  rw [hq] at HVV
  rw [hq]
  cases q
  · have e0 : ∀ i, ent zs i = 0 := fun i => by simp [ent, hq]
    rw [e0, e0, e0] at HVV
    clear e0 hr hz ht hq hx
    rw [Bool.and_false]
    go_enter Try.func39, Try.ntmps39
    go_wp2_with fail
    refine HVV.out.mono ?_
    rintro e w1 ⟨rfl, hb1⟩
    have hz1 := hb1.size
    go_wp2
    go_ret
    exact GivesO.from (hb1.alloc hz1 _) (givesO_nil _)
  · obtain ⟨x, y, z, rfl⟩ := vv3 hq
    obtain ⟨e0, e1, e2⟩ := ent3 hq
    rw [e0, e1, e2] at HVV
    rw [Bool.and_true]
    obtain ⟨p, hp⟩ : ∃ p, vlog os = p := ⟨_, rfl⟩
    rw [hp] at HV
    rw [hp]
    have HP := Lib.hid hp
    clear e0 e1 e2 hr hz ht hq hx hp
    cases p
    · go_enter Try.func39, Try.ntmps39
      go_wp2_with fail
      refine HVV.out.mono ?_
      rintro e w1 ⟨rfl, hb1⟩
      have hz1 := hb1.size
      have hB1 := hb1.alloc hz1 (.cells #[.int .i64 x, .int .i64 y, .int .i64 z] 84)
      go_wp2_with fail
      refine (HV.out _ hB1).mono ?_
      rintro e w2 ⟨rfl, hb2⟩
      go_wp2
      go_ret
      exact GivesO.from (hB1.trans (hb2.mono hB1.size)) (givesO_nil _)
    · go_enter Try.func39, Try.ntmps39
      go_wp2_with fail
      refine HVV.out.mono ?_
      rintro e w1 ⟨rfl, hb1⟩
      have hz1 := hb1.size
      have hB1 := hb1.alloc hz1 (.cells #[.int .i64 x, .int .i64 y, .int .i64 z] 84)
      have c0 : (w1.alloc (.cells #[.int .i64 x, .int .i64 y, .int .i64 z] 84)).cell? ⟨w1.heap.size, 0, none⟩ = some (.int .i64 x) := by simp [go_sem]
      have c1 : (w1.alloc (.cells #[.int .i64 x, .int .i64 y, .int .i64 z] 84)).cell? ⟨w1.heap.size, 1, none⟩ = some (.int .i64 y) := by simp [go_sem]
      have c2 : (w1.alloc (.cells #[.int .i64 x, .int .i64 y, .int .i64 z] 84)).cell? ⟨w1.heap.size, 2, none⟩ = some (.int .i64 z) := by simp [go_sem]
      have hz2 : w1.heap.size < (w1.alloc (.cells #[.int .i64 x, .int .i64 y, .int .i64 z] 84)).heap.size := by simp
      have HB1 := Lib.hid hB1
      have HC0 := Lib.hid c0
      have HC1 := Lib.hid c1
      have HC2 := Lib.hid c2
      have HZ2 := Lib.hid hz2
      clear c0 c1 c2 hB1 hz2
      go_wp2_with fail
      refine (HV.out _ HB1.out).mono ?_
      rintro e w2 ⟨rfl, hb2⟩
      have hB2 := HB1.out.trans (hb2.mono HB1.out.size)
      have hz3 := hb2.size
      go_wp2_with fail
      refine (opSet _ _ _ _).mono ?_
      rintro e w3 ⟨rfl, hb3⟩
      have hB3 := hB2.trans (hb3.mono hB2.size)
      have hz4 := hb3.size
      have hz5 : w1.heap.size < w2.heap.size := Nat.lt_of_lt_of_le HZ2.out hz3
      go_wp2_with fail
      refine (filter 76 ⟨w1.heap.size, 0, none⟩ (fun o => !con [x, y, z] o) a c os w3 (HR.out.below hB3) hl (allTo_of HP.out) enM (fun o W hW hst => ?_)).mono ?_
      · have cc : ∀ i v, (w1.alloc (.cells #[.int .i64 x, .int .i64 y, .int .i64 z] 84)).cell? ⟨w1.heap.size, i, none⟩ = some v → W.cell? ⟨w1.heap.size, i, none⟩ = some v := fun i v h =>
          (hW.cell (p := ⟨w1.heap.size, i, none⟩) (by show w1.heap.size < _; omega)).trans ((hb3.cell (p := ⟨w1.heap.size, i, none⟩) hz5).trans ((hb2.cell (p := ⟨w1.heap.size, i, none⟩) HZ2.out).trans h))
        exact keepM x y z o w1.heap.size W (cc 0 _ HC0.out) (cc 1 _ HC1.out) (cc 2 _ HC2.out) (vst_j hst)
      · rintro e w4 ⟨v, rfl, hown, hb4⟩
        have hB4 := hB3.trans (hb4.mono hB3.size)
        obtain ⟨av, cv', rfl, _⟩ := ownedO hown
        have hfd := field0 av (keepTo (fun o => !con [x, y, z] o) os os.length).length cv' (.func (.func 92) #[] #[])
        go_wp2
        go_ret
        exact (OwnsO.lower hown hB3.size).gives hB4

end Go.Proofs.Ytkkeaimoplkliaa.LgS
