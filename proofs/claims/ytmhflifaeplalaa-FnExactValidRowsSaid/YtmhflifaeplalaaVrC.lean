/-
  ValidRows of the program: its contract. For slices that read as a list of at most 2^20 rows.
-/
import Derived.Test.YtmhflifaeplalaaVrB
import Derived.Outline
namespace Go.Proofs.Ytmhflifaeplalaa.VrC
open Go.RowKit Go.Proofs.Ytmhflifaeplalaa.Base Go.Proofs.Ytmhflifaeplalaa.VecA Go.Proofs.Ytmhflifaeplalaa.GsA Go.Proofs.Ytmhflifaeplalaa.GwB Go.Proofs.Ytmhflifaeplalaa.St Go.Proofs.Ytmhflifaeplalaa.Vec Go.Proofs.Ytmhflifaeplalaa.Row Go.Proofs.Ytmhflifaeplalaa.RowB Go.Proofs.Ytmhflifaeplalaa.ScA Go.Proofs.Ytmhflifaeplalaa.VrA Go.Proofs.Ytmhflifaeplalaa.VrB
set_option linter.unusedVariables false

theorem boxRow (w : World) (x : RowV) : (w.alloc (.cells #[.int .i64 x.i, .int .i64 x.j, .int .i64 x.k, .int .i64 x.d, .string x.tx] 38)).rangeAt w.heap.size 0 (ERow.L x) := by
  intro j u hu
  rw [Nat.zero_add, World.cell?_alloc_at _ _ _ _ rfl, ← hu]
  show ((LRow x).toArray)[j]? = (LRow x)[j]?
  simp

set_option maxRecDepth 100000 in
set_option maxHeartbeats 2000000 in
theorem impl_ValidRows (a : Option Addr) (c : Nat) (xs : List RowV) (w : World) (hr : RdG ERow w a xs) (hl : xs.length ≤ 1048576) :
    Calls Try.prog 19 #[.slice a xs.length c] w fun e w' => e = .returned (.bool (okTo xs xs.length)) ∧ Below w.heap.size w w' := by
  have HR := Lib.hid hr
  have HN := Lib.hid (ownsI_nil w w.heap.size)
  clear hr
  go_enter Try.func19, Try.ntmps19
  go_wp2
  go_loopw [3, 8] (fun v i wr => ∃ k : Nat, k ≤ xs.length ∧ i = .int .i64 k ∧ OwnsI wr w.heap.size v (chAt xs k) ∧ Hid (okTo xs k = true) ∧ Below w.heap.size w wr) (fun _ i _ => xs.length - (intOf i).toNat)
  case atStart => exact ⟨0, Nat.zero_le _, rfl, HN.out, (rfl : _ = _), Below.refl _ _⟩
  case round =>
    obtain ⟨k, hk, rfl, hown, hok, hnx⟩ := hrel
    by_cases hlt : k < xs.length
    · rcases HR.out with h0 | ⟨b, off, rfl, hc⟩
      · rw [h0] at hlt
        cases hlt
      obtain ⟨A, ca, rfl, hrd, _, _, _⟩ := hown.form
      obtain ⟨x, hx⟩ : ∃ x, x = xs.getD k zRow := ⟨_, rfl⟩
      have HRg := Lib.hid (by rw [hx]; exact rangeAt_below (hc k hlt) hnx (rangeAt_ltG ERow (hc k hlt)) : wr.rangeAt b (off + k * 5) (ERow.L x))
      have hcl := chAt_len xs k
      have hst : okTo xs (k + 1) = (okTo xs k && okRow (chAt xs k) x) := by rw [hx]; rfl
      have hch : chAt xs (k + 1) = nx (chAt xs k) x := by rw [hx]; rfl
      have HBad := Lib.hid (fun (h : okRow (chAt xs k) x = false) => okTo_bad xs (k := k) (by rw [← hx]; exact h) xs.length hlt)
      have HST := Lib.hid hst
      have HCH := Lib.hid hch
      have HOW := Lib.hid hown
      have HRD := Lib.hid hrd
      have HNX := Lib.hid hnx
      have zr := hnx.size
      clear hst hch hown hrd hnx hc hx
      generalize chAt xs k = ch at HST HCH HOW HRD HBad hcl
      have hcl2 : ch.length ≤ 1048576 := by omega
      have bA := (Below.refl wr.heap.size wr).alloc (Nat.le_refl _) (.cells #[.int .i64 x.i, .int .i64 x.j, .int .i64 x.k, .int .i64 x.d, .string x.tx] 38)
      have HA := Lib.hid (allow A ca ch x _ (Rd.below HRD.out bA) hcl2)
      have HBA := Lib.hid bA
      have HBX := Lib.hid (boxRow wr x)
      clear bA
      obtain ⟨q, hq⟩ : ∃ q, okRow ch x = q := ⟨_, rfl⟩
      rw [hq] at HA
      cases q
      · have HF := Lib.hid (HBad.out hq)
        clear hq HBad
        go_wp2_with (first | (refine load_iRow (b := b) rfl _ rfl rfl HRg.out ?_) | (refine load_iRow (b := wr.heap.size) rfl _ rfl rfl HBX.out ?_))
        refine HA.out.mono ?_
        rintro e w1 ⟨rfl, b1⟩
        go_wp2
        go_ret
        exact ⟨ret_bool HF.out.symm, (HNX.out.trans (HBA.out.mono zr)).trans (b1.mono (Nat.le_trans zr HBA.out.size))⟩
      · have hd : inR x.d 0 ch.length = true := by
          unfold okRow at hq
          simp only [Bool.and_eq_true] at hq
          exact hq.1
        rw [inR_iff] at hd
        have HQ := Lib.hid hq
        clear hq HBad
        obtain ⟨hd0, hd1⟩ := hd
        go_wp2_with (first | (refine load_iRow (b := b) rfl _ rfl rfl HRg.out ?_) | (refine load_iRow (b := wr.heap.size) rfl _ rfl rfl HBX.out ?_))
        refine HA.out.mono ?_
        rintro e w1 ⟨rfl, b1⟩
        have HB1 := Lib.hid (HBA.out.trans (b1.mono HBA.out.size))
        have hb2 : (wr.alloc (.cells #[.int .i64 x.i, .int .i64 x.j, .int .i64 x.k, .int .i64 x.d, .string x.tx] 38)).heap.size = wr.heap.size + 1 := by simp
        have HBX1 := Lib.hid (rangeAt_below HBX.out b1 (by omega))
        have HOW1 := Lib.hid (HOW.out.below HB1.out)
        have HFB := Lib.hid (followedBy A ca ch x w1 w.heap.size HOW1.out hd0 hd1 hcl2 (Nat.le_trans zr HB1.out.size))
        clear b1 hb2 hd0 hd1
        go_wp2_with (refine load_iRow (b := wr.heap.size) rfl _ rfl rfl HBX1.out ?_)
        refine HFB.out.mono ?_
        rintro e w2 ⟨⟨v2, rfl, hown2⟩, b2⟩
        go_wp2
        go_roundw
        case rel => exact ⟨k + 1, by omega, by go_num, by rw [HCH.out]; exact hown2, (by rw [HST.out, hok.out, HQ.out]; rfl : _ = _), (HNX.out.trans (HB1.out.mono zr)).trans b2⟩
        case measure => simp [intOf]; omega
    · obtain rfl : k = xs.length := by omega
      go_wp2
      go_ret
      exact ⟨ret_bool hok.out.symm, hnx⟩

end Go.Proofs.Ytmhflifaeplalaa.VrC
