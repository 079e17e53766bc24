/-
  agree of the laws: where it answers true, each operation of the first list whose ID stands in the second is the same there. For slices of at most 2^20.
-/
import Derived.Test.YtmhflifaeplalaaMoB
import Derived.Test.YtmhflifaeplalaaMoC
namespace Go.Proofs.Ytmhflifaeplalaa.MoD
open Go.RowKit Go.Proofs.Ytmhflifaeplalaa.Base Go.Proofs.Ytmhflifaeplalaa.St Go.Proofs.Ytmhflifaeplalaa.StB Go.Proofs.Ytmhflifaeplalaa.OpA Go.Proofs.Ytmhflifaeplalaa.OpW Go.Proofs.Ytmhflifaeplalaa.OpB Go.Proofs.Ytmhflifaeplalaa.OpT Go.Proofs.Ytmhflifaeplalaa.LgA Go.Proofs.Ytmhflifaeplalaa.LgB Go.Proofs.Ytmhflifaeplalaa.LgC Go.Proofs.Ytmhflifaeplalaa.LgF Go.Proofs.Ytmhflifaeplalaa.LgP Go.Proofs.Ytmhflifaeplalaa.LgZ Go.Proofs.Ytmhflifaeplalaa.MoA Go.Proofs.Ytmhflifaeplalaa.MoB Go.Proofs.Ytmhflifaeplalaa.MoC
set_option linter.unusedVariables false

/-- Of the operation at i: no ID like it in the second list, or it stands there. -/
def AgrI (xs ys : List OpV) (i : Nat) : Prop := (∀ m, m < ys.length → ¬ ((ys.getD m zop).i = (xs.getD i zop).i ∧ (ys.getD m zop).j = (xs.getD i zop).j)) ∨ (∃ m, m < ys.length ∧ ys.getD m zop = xs.getD i zop)
theorem agr_of {xs ys : List OpV} (h : ∀ i, i < xs.length → AgrI xs ys i) (hb : srt ys) : Agr xs ys := by
  intro p hp q hq hs
  obtain ⟨i, hi, rfl⟩ := List.mem_iff_getElem.mp hp
  obtain ⟨m, hm, rfl⟩ := List.mem_iff_getElem.mp hq
  have e1 : xs.getD i zop = xs[i] := by rw [List.getD_eq_getElem?_getD, List.getElem?_eq_getElem hi]; rfl
  have e2 : ∀ m (hm : m < ys.length), ys.getD m zop = ys[m] := fun m hm => by rw [List.getD_eq_getElem?_getD, List.getElem?_eq_getElem hm]; rfl
  rcases h i hi with h | ⟨n, hn, h⟩
  · exact absurd ⟨by rw [e2 m hm, e1]; exact hs.1.symm, by rw [e2 m hm, e1]; exact hs.2.symm⟩ (h m hm)
  · rw [e1, e2 n hn] at h
    rw [← h] at hs ⊢
    exact srt_once hb (List.getElem_mem hn) hq hs

set_option maxRecDepth 100000 in
set_option maxHeartbeats 4000000 in
theorem agree (a a' : Option Addr) (c c' : Nat) (xs ys : List OpV) (w : World) (hx : RdO w a xs) (hy : RdO w a' ys) (hl : xs.length ≤ 1048576) (hl' : ys.length ≤ 1048576) :
    Calls Try.prog 43 #[.slice a xs.length c, .slice a' ys.length c'] w fun e w' => (∃ r : Bool, e = .returned (.bool r) ∧ (r = true → ∀ i, i < xs.length → AgrI xs ys i)) ∧ Below w.heap.size w w' := by
  have HX := Lib.hid hx
  have HY := Lib.hid hy
  clear hx hy
  go_enter Try.func43, Try.ntmps43
  go_wp2
  go_loopw [5] (fun i wr => ∃ k : Nat, k ≤ xs.length ∧ i = .int .i64 k ∧ Hid (∀ i, i < k → AgrI xs ys i) ∧ Below w.heap.size w wr) (fun i _ => xs.length - (intOf i).toNat)
  case atStart => exact ⟨0, Nat.zero_le _, rfl, fun m hm => absurd hm (by omega), Below.refl _ _⟩
  case round =>
    obtain ⟨k, hk, rfl, hall, hnx⟩ := hrel
    by_cases hlt : k < xs.length
    · rcases HX.out with h0 | ⟨b, off, rfl, hcc⟩
      · rw [h0] at hlt
        cases hlt
      obtain ⟨q, hq⟩ : ∃ q, q = xs.getD k zop := ⟨_, rfl⟩
      have hrg : wr.rangeAt b (off + k * 12) (opL q) := by rw [hq]; exact rangeAt_below (hcc k hlt) hnx (rangeAt_lt (hcc k hlt))
      have HR := Lib.hid hrg
      have HQ := Lib.hid hq
      have HFO := Lib.hid (findOp a' c' ys q.i q.j wr (HY.out.below hnx) hl')
      obtain ⟨q0, q1, q2, q3, q4, q5, q6, q7, q8, q9, q10, q11⟩ := c12 hrg
      clear hq hcc hrg q2 q3 q4 q5 q6 q7 q8 q9 q10 q11
      have hk0 : (0 : Int) ≤ (k : Int) := Int.natCast_nonneg _
      have hk1 : (k : Int) < (xs.length : Int) := by omega
      go_wp2_with fail
      refine HFO.out.mono ?_
      rintro e w1 ⟨hres, b1⟩
      have HR1 := Lib.hid (rangeAt_below HR.out b1 (rangeAt_lt HR.out))
      have HB1 := Lib.hid (hnx.trans (b1.mono hnx.size))
      have hz1 := HB1.out.size
      clear q0 q1 b1 HR HFO
      rcases hres with ⟨m, rfl, hm, hs⟩ | ⟨rfl, hno⟩
      · rcases HY.out with h0 | ⟨b', off', rfl, hcc⟩
        · rw [h0] at hm
          cases hm
        obtain ⟨p, hp⟩ : ∃ p, p = ys.getD m zop := ⟨_, rfl⟩
        have HR2 := Lib.hid (by rw [hp]; exact rangeAt_below (hcc m hm) HB1.out (rangeAt_lt (hcc m hm)) : w1.rangeAt b' (off' + m * 12) (opL p))
        have hm0 : (0 : Int) ≤ (m : Int) := Int.natCast_nonneg _
        have hm1 : (m : Int) < (ys.length : Int) := by omega
        obtain ⟨r, hr⟩ : ∃ r, eqv p q = r := ⟨_, rfl⟩
        have hne := neqOp p q
        rw [hr] at hne
        have HEQ := Lib.hid (show r = true → AgrI xs ys k from fun h => by rw [h] at hr; have := eqv_eq hr; exact .inr ⟨m, hm, by rw [← hp, ← HQ.out]; exact this⟩)
        clear hp hcc hs hr
        cases r
        · go_wp2
          go_region_held3 (fun w' => C12 w' b (off + k * 12) q ∧ C12 w' b' (off' + m * 12) p ∧ Below w1.heap.size w1 w')
            (first | exact ⟨c12 HR1.out, c12 HR2.out, (Below.refl _ _).drew⟩ | assumption)
            (first | fail)
          go_wp2
          go_ret
          exact ⟨⟨false, rfl, fun h => by cases h⟩, HB1.out.trans ((And.right (And.right (by assumption : C12 _ b (off + k * 12) q ∧ C12 _ b' (off' + m * 12) p ∧ Below w1.heap.size w1 _))).mono hz1)⟩
        · have HEQ1 := Lib.hid (HEQ.out rfl)
          clear HEQ
          go_wp2
          go_region_held3 (fun w' => C12 w' b (off + k * 12) q ∧ C12 w' b' (off' + m * 12) p ∧ Below w1.heap.size w1 w')
            (first | exact ⟨c12 HR1.out, c12 HR2.out, (Below.refl _ _).drew⟩ | assumption)
            (first | fail)
          go_wp2
          go_roundw
          case rel => exact ⟨k + 1, by omega, by go_num, (fun i hi => by rcases (show i < k ∨ i = k by omega) with h | rfl; exact hall.out i h; exact HEQ1.out : ∀ i, i < k + 1 → AgrI xs ys i), HB1.out.trans ((And.right (And.right (by assumption : C12 _ b (off + k * 12) q ∧ C12 _ b' (off' + m * 12) p ∧ Below w1.heap.size w1 _))).mono hz1)⟩
          case measure => simp [intOf]; omega
      · have HEQ := Lib.hid (show AgrI xs ys k from .inl (by rw [← HQ.out]; exact hno))
        clear hno
        go_wp2
        go_region
        all_goals
          go_wp2
          go_roundw
          case rel => exact ⟨k + 1, by omega, by go_num, (fun i hi => by rcases (show i < k ∨ i = k by omega) with h | rfl; exact hall.out i h; exact HEQ.out : ∀ i, i < k + 1 → AgrI xs ys i), HB1.out.drew⟩
          case measure => simp [intOf]; omega
    · obtain rfl : k = xs.length := by omega
      go_wp2
      go_ret
      exact ⟨⟨true, rfl, fun _ => hall.out⟩, hnx⟩

end Go.Proofs.Ytmhflifaeplalaa.MoD
