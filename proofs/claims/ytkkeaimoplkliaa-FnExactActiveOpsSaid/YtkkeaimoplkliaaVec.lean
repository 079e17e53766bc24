/-
  Contracts of the functions on version vectors: validVector of the model and vectorOf of the program, and what the laws do with slices of integers (toIntS, eqIntS). For every slice of at most 2^20 numbers that reads as a list.
-/
import Derived.Test.YtkkeaimoplkliaaSt
import Derived.Handy
import Derived.Deep.OwnRows
namespace Go.Proofs.Ytkkeaimoplkliaa.Vec
open Go.RowKit Go.Proofs.Ytkkeaimoplkliaa.Base Go.Proofs.Ytkkeaimoplkliaa.St

/-- The slice at address a reads as the numbers zs. -/
def Rd (w : World) (a : Option Addr) (zs : List Int) : Prop :=
  zs = [] ∨ ∃ b off, a = some ⟨b, off, none⟩ ∧ ∀ i, i < zs.length → w.cell? ⟨b, off + i, none⟩ = some (.int .i64 (zs.getD i 0))

/-- The numbers of a valid version vector. -/
def vv (zs : List Int) : Bool := zs.all (fun z => inR z 0 99) && decide (zs.length = 3)
theorem vv_bad {zs : List Int} {k : Nat} {z : Int} (hk : k < zs.length) (hz : z = zs.getD k 0) (h : inR z 0 99 = false) : vv zs = false := by
  subst hz
  have : zs.all (fun z => inR z 0 99) = false := by
    rw [List.all_eq_false]
    exact ⟨zs.getD k 0, by rw [List.getD_eq_getElem?_getD, List.getElem?_eq_getElem hk]; exact List.getElem_mem hk, by simpa using h⟩
  simp [vv, this]
theorem all_snoc {zs : List Int} {k : Nat} {z : Int} (hk : k < zs.length) (hz : z = zs.getD k 0) (h : inR z 0 99 = true) (ha : (zs.take k).all (fun z => inR z 0 99) = true) : (zs.take (k + 1)).all (fun z => inR z 0 99) = true := by
  subst hz
  rw [List.take_succ_eq_append_getElem hk, List.all_append, ha]
  rw [List.getD_eq_getElem?_getD, List.getElem?_eq_getElem hk] at h
  simpa using h

theorem spec_validVector (a : Option Addr) (c : Nat) (zs : List Int) (w : World) (hr : Rd w a zs) (hl : zs.length ≤ 1048576) :
    Calls Try.prog 69 #[.slice a zs.length c] w fun e w' => e = .returned (.bool (vv zs)) ∧ w = w' := by
  rcases hr with rfl | ⟨b, off, rfl, hc⟩
  · go_enter Try.func69, Try.ntmps69
    go_wp2
    go_rounds 1
    go_ret
    exact ⟨ret_bool (by simp [vv]), rfl⟩
  · have HC := Lib.hid hc
    clear hc
    go_enter Try.func69, Try.ntmps69
    go_wp2
    go_loop [3] (fun i => ∃ k : Nat, k ≤ zs.length ∧ i = .int .i64 k ∧ Hid ((zs.take k).all (fun z => inR z 0 99) = true)) (fun i => zs.length - (intOf i).toNat)
    case atStart => exact ⟨0, Nat.zero_le _, rfl, by simp [Hid]⟩
    case round =>
      obtain ⟨k, hk, rfl, hall⟩ := hrel
      by_cases hlt : k < zs.length
      · obtain ⟨z, hz⟩ : ∃ z, z = zs.getD k 0 := ⟨_, rfl⟩
        have hcz : w.cell? ⟨b, off + k, none⟩ = some (.int .i64 z) := by rw [hz]; exact HC.out k hlt
        have HZ := Lib.hid hz
        clear hz
        cases hi : inR z 0 99
        · go_wp2_with (go_at_call 87; refine (spec_inRange _ _ _ _).mono ?_; rintro e w' ⟨rfl, rfl⟩)
          go_ret
          exact ⟨ret_bool (vv_bad hlt HZ.out hi).symm, rfl⟩
        · have HI := Lib.hid hi
          go_wp2_with (go_at_call 87; refine (spec_inRange _ _ _ _).mono ?_; rintro e w' ⟨rfl, rfl⟩)
          go_round
          case rel => exact ⟨k + 1, by omega, by go_num, all_snoc hlt HZ.out HI.out hall.out⟩
          case measure => simp [intOf]; omega
      · obtain rfl : k = zs.length := by omega
        go_wp2
        go_ret
        have h := hall.out
        rw [List.take_length] at h
        exact ⟨ret_bool (by simp only [vv, h, Bool.true_and]; rw [Bool.eq_iff_iff]; simp; omega), rfl⟩


/-- Entry i of the vector that vectorOf makes. -/
def ent (zs : List Int) (i : Nat) : Int := if vv zs then zs.getD i 0 else 0

theorem vectorOf (a : Option Addr) (c : Nat) (zs : List Int) (w : World) (hr : Rd w a zs) (hl : zs.length ≤ 1048576) :
    Calls Try.prog 71 #[.slice a zs.length c] w fun e w' =>
      e = .returned (.tuple #[.agg #[.int .i64 (ent zs 0), .int .i64 (ent zs 1), .int .i64 (ent zs 2)], .bool (vv zs)]) ∧ Below w.heap.size w w' := by
  by_cases h3 : zs.length = 3
  · match zs, h3 with
    | [x, y, z], _ =>
      rcases hr with h | ⟨b, off, rfl, hc⟩
      · cases h
      have c0 : w.cell? ⟨b, off, none⟩ = some (.int .i64 x) := hc 0 (by simp)
      have c1 : w.cell? ⟨b, off + 1, none⟩ = some (.int .i64 y) := hc 1 (by simp)
      have c2 : w.cell? ⟨b, off + 2, none⟩ = some (.int .i64 z) := hc 2 (by simp)
      have lb : b < w.heap.size := World.block_lt_of_cell? w _ c0
      clear hc hl
      generalize he0 : ent [x, y, z] 0 = n0
      generalize he1 : ent [x, y, z] 1 = n1
      generalize he2 : ent [x, y, z] 2 = n2
      generalize hv : vv [x, y, z] = v
      simp only [ent, hv] at he0 he1 he2
      cases hx : inR x 0 99
      · obtain rfl : v = false := by rw [← hv]; simp [vv, hx]
        obtain ⟨rfl, rfl, rfl⟩ : n0 = 0 ∧ n1 = 0 ∧ n2 = 0 := by simp [← he0, ← he1, ← he2]
        clear hv he0 he1 he2
        go_enter Try.func71, Try.ntmps71
        go_wp2
        refine wp_loop_rounds 4 ?_
        rw [rounds_succ]
        go_wp2_with (go_at_call 89; refine (impl_inRange _ _ _ _).mono ?_; rintro e w' ⟨rfl, rfl⟩)
        refine bodyPost_ret (v := .tuple #[.agg #[.int .i64 0, .int .i64 0, .int .i64 0], .bool false]) (by simp [results, Try.results71, go_sem]) rfl ⟨rfl, ?_⟩
        go_grown
      cases hy : inR y 0 99
      · obtain rfl : v = false := by rw [← hv]; simp [vv, hy]
        obtain ⟨rfl, rfl, rfl⟩ : n0 = 0 ∧ n1 = 0 ∧ n2 = 0 := by simp [← he0, ← he1, ← he2]
        clear hv he0 he1 he2
        go_enter Try.func71, Try.ntmps71
        go_wp2
        refine wp_loop_rounds 4 ?_
        rw [rounds_succ]
        go_wp2_with (go_at_call 89; refine (impl_inRange _ _ _ _).mono ?_; rintro e w' ⟨rfl, rfl⟩)
        rw [rounds_succ]
        go_wp2_with (go_at_call 89; refine (impl_inRange _ _ _ _).mono ?_; rintro e w' ⟨rfl, rfl⟩)
        refine bodyPost_ret (v := .tuple #[.agg #[.int .i64 0, .int .i64 0, .int .i64 0], .bool false]) (by simp [results, Try.results71, go_sem]) rfl ⟨rfl, ?_⟩
        go_grown
      cases hz : inR z 0 99
      · obtain rfl : v = false := by rw [← hv]; simp [vv, hz]
        obtain ⟨rfl, rfl, rfl⟩ : n0 = 0 ∧ n1 = 0 ∧ n2 = 0 := by simp [← he0, ← he1, ← he2]
        clear hv he0 he1 he2
        go_enter Try.func71, Try.ntmps71
        go_wp2
        refine wp_loop_rounds 4 ?_
        rw [rounds_succ]
        go_wp2_with (go_at_call 89; refine (impl_inRange _ _ _ _).mono ?_; rintro e w' ⟨rfl, rfl⟩)
        rw [rounds_succ]
        go_wp2_with (go_at_call 89; refine (impl_inRange _ _ _ _).mono ?_; rintro e w' ⟨rfl, rfl⟩)
        rw [rounds_succ]
        go_wp2_with (go_at_call 89; refine (impl_inRange _ _ _ _).mono ?_; rintro e w' ⟨rfl, rfl⟩)
        refine bodyPost_ret (v := .tuple #[.agg #[.int .i64 0, .int .i64 0, .int .i64 0], .bool false]) (by simp [results, Try.results71, go_sem]) rfl ⟨rfl, ?_⟩
        go_grown
      · obtain rfl : v = true := by rw [← hv]; simp [vv, hx, hy, hz]
        obtain ⟨rfl, rfl, rfl⟩ : n0 = x ∧ n1 = y ∧ n2 = z := by simp [← he0, ← he1, ← he2]
        clear hv he0 he1 he2
        go_enter Try.func71, Try.ntmps71
        go_wp2
        refine wp_loop_rounds 4 ?_
        rw [rounds_succ]
        go_wp2_with (go_at_call 89; refine (impl_inRange _ _ _ _).mono ?_; rintro e w' ⟨rfl, rfl⟩)
        rw [rounds_succ]
        go_wp2_with (go_at_call 89; refine (impl_inRange _ _ _ _).mono ?_; rintro e w' ⟨rfl, rfl⟩)
        rw [rounds_succ]
        go_wp2_with (go_at_call 89; refine (impl_inRange _ _ _ _).mono ?_; rintro e w' ⟨rfl, rfl⟩)
        rw [rounds_succ]
        go_wp2_with (go_at_call 89; refine (impl_inRange _ _ _ _).mono ?_; rintro e w' ⟨rfl, rfl⟩)
        refine bodyPost_ret (v := .tuple #[.agg #[.int .i64 n0, .int .i64 n1, .int .i64 n2], .bool true]) (by simp [results, Try.results71, go_sem]) rfl ⟨rfl, ?_⟩
        go_grown
  · have hv : vv zs = false := by simp [vv, h3]
    have e0 : ∀ i, ent zs i = 0 := fun i => by simp [ent, hv]
    rw [e0, e0, e0, hv]
    clear e0 hv
    have h3' : ((zs.length : Int) == 3) = false := by simp; omega
    go_enter Try.func71, Try.ntmps71
    go_wp2
    refine bodyPost_ret (v := .tuple #[.agg #[.int .i64 0, .int .i64 0, .int .i64 0], .bool false]) (by simp [results, Try.results71, go_sem]) rfl ⟨rfl, ?_⟩
    go_grown

end Go.Proofs.Ytkkeaimoplkliaa.Vec
