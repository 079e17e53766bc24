/-
  logVector and LogVector of the model: contracts. For slices that read as a list of at most 2^20 operations.
-/
import Derived.Test.YtkkeaimoplkliaaLgT
import Derived.RegionTactic
import Derived.BigRegion
import Derived.Outline
namespace Go.Proofs.Ytkkeaimoplkliaa.LgW
open Go.RowKit Go.Proofs.Ytkkeaimoplkliaa.Base Go.Proofs.Ytkkeaimoplkliaa.St Go.Proofs.Ytkkeaimoplkliaa.StB Go.Proofs.Ytkkeaimoplkliaa.Vec Go.Proofs.Ytkkeaimoplkliaa.Row Go.Proofs.Ytkkeaimoplkliaa.RowB Go.Proofs.Ytkkeaimoplkliaa.OpA Go.Proofs.Ytkkeaimoplkliaa.OpB Go.Proofs.Ytkkeaimoplkliaa.LgA Go.Proofs.Ytkkeaimoplkliaa.LgB Go.Proofs.Ytkkeaimoplkliaa.LgC Go.Proofs.Ytkkeaimoplkliaa.LgF Go.Proofs.Ytkkeaimoplkliaa.LgI Go.Proofs.Ytkkeaimoplkliaa.LgP Go.Proofs.Ytkkeaimoplkliaa.LgS
set_option linter.unusedVariables false

/-- The largest sequence number of author x among the first k operations, or 0. -/
def vmx (os : List OpV) : Nat → Nat → Int
  | 0, _ => 0
  | k + 1, x => if (os.getD k zop).j = (x : Int) ∧ vmx os k x < (os.getD k zop).i then (os.getD k zop).i else vmx os k x
/-- The vector of a log. -/
def lvec (os : List OpV) : List Int := if vlog os then [vmx os os.length 0, vmx os os.length 1, vmx os os.length 2] else []

theorem vj_of {os : List OpV} (h : allTo os os.length = true) {k : Nat} (hk : k < os.length) : ∃ A : Nat, (os.getD k zop).j = (A : Int) ∧ A ≤ 2 := by
  obtain ⟨h0, h1⟩ := vst_j (vst_of h hk)
  exact ⟨(os.getD k zop).j.toNat, by omega, by omega⟩

set_option maxRecDepth 100000 in
set_option maxHeartbeats 1000000 in
theorem spec_logVector (a : Option Addr) (c : Nat) (os : List OpV) (w : World) (hr : RdO w a os) (hl : os.length ≤ 1048576) (hok : allTo os os.length = true) :
    Calls Try.prog 66 #[.slice a os.length c] w (Gives w [vmx os os.length 0, vmx os os.length 1, vmx os os.length 2]) := by
  have HOK := Lib.hid (fun k (hk : k < os.length) => vj_of hok hk)
  clear hok
  have hmk : ∀ w : World, (Instr.makeSlice 46 (.int .i64 3) (.int .i64 3)).run Try.prog w = .ok (.slice (some ⟨w.heap.size, 0, none⟩) 3 3) (w.alloc (.cells (madeCells #[.int .i64 0] 3) 3)) :=
    fun w => run_make_row' (P := Try.prog) 46 3 (.int .i64 0) 8 Try.underlying46 info_int rfl .i64 .i64 3 (by omega) (by omega) w
  have H3 : OwnI (w.alloc (.cells (madeCells #[.int .i64 0] 3) 3)) w.heap.size 3 3 (fun _ => 0) := ⟨fun _ => .int .i64 0, World.rowIs_made w (.int .i64 0) 3 3, Nat.le_refl _, fun i _ => rfl⟩
  have HOW := Lib.hid H3
  have fin : ∀ (W : World), OwnI W w.heap.size 3 3 (fun i => vmx os os.length i) → Below w.heap.size w W → Gives w [vmx os os.length 0, vmx os os.length 1, vmx os os.length 2] (.returned (.slice (some ⟨w.heap.size, 0, none⟩) 3 3)) W := fun W h hb =>
    ⟨some ⟨w.heap.size, 0, none⟩, 3, rfl, .inr ⟨w.heap.size, rfl, Nat.le_refl _, h.congr fun i hi => by
      obtain rfl | rfl | rfl : i = 0 ∨ i = 1 ∨ i = 2 := by
        have : i < 3 := hi
        omega
      all_goals rfl⟩, hb⟩
  have FIN := Lib.hid fin
  clear fin H3
  rcases hr with rfl | ⟨b, off, rfl, hc⟩
  · go_enter Try.func66, Try.ntmps66
    go_wp2
    go_rounds 1
    go_ret
    exact FIN.out _ (HOW.out.congr fun i hi => rfl) ((Below.refl _ _).alloc (Nat.le_refl _) _)
  · have HC := Lib.hid hc
    clear hc
    go_enter Try.func66, Try.ntmps66
    go_wp2
    clear hmk
    go_loopw [4] (fun i wr => ∃ k : Nat, k ≤ os.length ∧ i = .int .i64 k ∧ OwnI wr w.heap.size 3 3 (fun x => vmx os k x) ∧ Below w.heap.size w wr) (fun i _ => os.length - (intOf i).toNat)
    case atStart => exact ⟨0, Nat.zero_le _, rfl, HOW.out.congr fun i hi => rfl, (Below.refl _ _).alloc (Nat.le_refl _) _⟩
    case round =>
      obtain ⟨k, hk, rfl, hown, hnx⟩ := hrel
      by_cases hlt : k < os.length
      · obtain ⟨o, ho⟩ : ∃ o, o = os.getD k zop := ⟨_, rfl⟩
        obtain ⟨A, hA, hA2⟩ := HOK.out k hlt
        rw [← ho] at hA
        have hr := (by rw [ho]; exact rangeAt_below (HC.out k hlt) hnx (rangeAt_lt (HC.out k hlt)) : wr.rangeAt b (off + k * 12) (opL o))
        obtain ⟨q0, q1, _, _, _, _, _, _, _, _, _, _⟩ := c12 hr
        rw [hA] at q1
        have hco : wr.cell? ⟨w.heap.size, A, none⟩ = some (.int .i64 (vmx os k A)) := hown.cell (by omega)
        have hfo := hown.frozen A
        have hbl : w.heap.size < wr.heap.size := hown.lt
        have HO := Lib.hid ho
        have HA := Lib.hid hA
        have HOWN := Lib.hid hown
        obtain ⟨m, hm⟩ : ∃ m, vmx os k A = m := ⟨_, rfl⟩
        rw [hm] at hco
        have HM := Lib.hid hm
        obtain ⟨s, hs⟩ : ∃ s, o.i = s := ⟨_, rfl⟩
        rw [hs] at q0
        have HS := Lib.hid hs
        have hk0 : (0 : Int) ≤ (k : Int) := Int.natCast_nonneg _
        have hk1 : (k : Int) < (os.length : Int) := by omega
        have hA0 : (0 : Int) ≤ (A : Int) := Int.natCast_nonneg _
        have hA1 : (A : Int) < 3 := by omega
        clear ho hr hA hown hm hs
        by_cases hgt : m < s
        · have hd : decide (m < s) = true := decide_eq_true hgt
          go_wp2
          go_quiet (fail)
          go_wp2
          go_region
          go_wp2
          go_roundw
          case rel =>
            refine ⟨k + 1, by omega, by go_num, ((HOWN.out.of_block (w' := wr.drewN _) rfl).set A s).congr fun x hx => ?_, (belowN hnx _).setCell (Nat.le_refl _) _⟩
            show (if x = A then s else vmx os k x) = vmx os (k + 1) x
            rw [vmx, ← HO.out, HA.out, HS.out]
            by_cases e : x = A
            · subst e; rw [if_pos rfl, HM.out, if_pos ⟨rfl, hgt⟩]
            · rw [if_neg e, if_neg (fun h => e (by omega))]
          case measure => simp [intOf]; omega
        · have hd : decide (m < s) = false := decide_eq_false hgt
          go_wp2
          go_quiet (fail)
          go_wp2
          go_roundw
          case rel =>
            refine ⟨k + 1, by omega, by go_num, HOWN.out.congr fun x hx => ?_, belowN hnx _⟩
            show vmx os k x = vmx os (k + 1) x
            rw [vmx, ← HO.out, HA.out, HS.out]
            by_cases e : A = x
            · subst e; rw [HM.out, if_neg (by omega)]
            · rw [if_neg (by omega)]
          case measure => simp [intOf]; omega
      · obtain rfl : k = os.length := by omega
        go_wp2
        go_ret
        exact FIN.out _ hown hnx

set_option maxRecDepth 100000 in
theorem spec_LogVector (a : Option Addr) (c : Nat) (os : List OpV) (w : World) (hr : RdO w a os) (hl : os.length ≤ 1048576) (ht : ∀ k, k < os.length → (os.getD k zop).tx.size ≤ maxLen) :
    Calls Try.prog 30 #[.slice a os.length c] w (Gives w (lvec os)) := by
  have HV := Lib.hid (spec_validLog svop a c os w hr hl ht)
  have HP := Lib.hid (fun W (h : Below w.heap.size w W) (h2 : allTo os os.length = true) => spec_logVector a c os W (hr.below h) hl h2)
  obtain ⟨p, hp⟩ : ∃ p, vlog os = p := ⟨_, rfl⟩
  have hx : lvec os = if p then [vmx os os.length 0, vmx os os.length 1, vmx os os.length 2] else [] := by rw [← hp]; rfl
  rw [hx]
  rw [hp] at HV
  have HPV := Lib.hid hp
  clear hr ht hp hx
  cases p
  · go_enter Try.func30, Try.ntmps30
    go_wp2_with fail
    refine HV.out.mono ?_
    rintro e w1 ⟨rfl, hb1⟩
    go_wp2
    go_ret
    exact ⟨none, 0, rfl, .inl ⟨rfl, rfl⟩, hb1⟩
  · go_enter Try.func30, Try.ntmps30
    go_wp2_with fail
    refine HV.out.mono ?_
    rintro e w1 ⟨rfl, hb1⟩
    go_wp2_with fail
    refine (HP.out _ hb1 (allTo_of HPV.out)).mono ?_
    rintro e w3 ⟨a3, c3, rfl, hr3, hb3⟩
    go_wp2
    go_ret
    refine ⟨a3, c3, rfl, ?_, hb1.trans (hb3.mono hb1.size)⟩
    rcases hr3 with hr3 | ⟨b3, rfl, hlo, ho⟩
    · exact .inl hr3
    · exact .inr ⟨b3, rfl, Nat.le_trans hb1.size hlo, ho⟩

end Go.Proofs.Ytkkeaimoplkliaa.LgW
