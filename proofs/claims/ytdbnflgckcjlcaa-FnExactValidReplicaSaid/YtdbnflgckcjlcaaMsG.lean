/-
  The walk of the law FnExactValidReplica: it returns true. For every argument; no condition.
-/
import Derived.Test.YtdbnflgckcjlcaaMsE
import Derived.Test.YtdbnflgckcjlcaaMsF
import Derived.Test.YtdbnflgckcjlcaaK2
import Derived.Test.YtdbnflgckcjlcaaK5
import Derived.Laws.EntriesVeiled
import Derived.Outline
namespace Go.Proofs.Ytdbnflgckcjlcaa.MsG
open Go.RowKit Go.Proofs.Ytdbnflgckcjlcaa.Base Go.Proofs.Ytdbnflgckcjlcaa.St Go.Proofs.Ytdbnflgckcjlcaa.StB Go.Proofs.Ytdbnflgckcjlcaa.OpA Go.Proofs.Ytdbnflgckcjlcaa.OpW Go.Proofs.Ytdbnflgckcjlcaa.OpB Go.Proofs.Ytdbnflgckcjlcaa.OpT Go.Proofs.Ytdbnflgckcjlcaa.LgA Go.Proofs.Ytdbnflgckcjlcaa.LgB Go.Proofs.Ytdbnflgckcjlcaa.LgC Go.Proofs.Ytdbnflgckcjlcaa.LgD Go.Proofs.Ytdbnflgckcjlcaa.LgF Go.Proofs.Ytdbnflgckcjlcaa.LgG Go.Proofs.Ytdbnflgckcjlcaa.LgI Go.Proofs.Ytdbnflgckcjlcaa.MsA Go.Proofs.Ytdbnflgckcjlcaa.MsB Go.Proofs.Ytdbnflgckcjlcaa.MsC Go.Proofs.Ytdbnflgckcjlcaa.MsD Go.Proofs.Ytdbnflgckcjlcaa.MsE Go.Proofs.Ytdbnflgckcjlcaa.MsF
open Go.Proofs.Ytdbnflgckcjlcaa.NnA (box_newG box_at box_there)
open Go.Proofs.Ytdbnflgckcjlcaa.GsA (Elt RdG OwnG RdG.below rangeAt_ltG)
set_option linter.unusedVariables false
attribute [local go_sem ↓] Go.wp_at_zero Go.wp_at_succ
attribute [local irreducible] Go.wpQuiet

theorem rep3 {b : Nat} {x y : RpV} {k : Nat} {w0 W w1 : World} (hb : b < w0.heap.size) (hk : k < w0.heap.size) (h : Below w0.heap.size w0 W ∧ CRp W b x ∧ CRp W k y) (hw : Below W.heap.size W w1) : Below w0.heap.size w0 w1 ∧ CRp w1 b x ∧ CRp w1 k y := by
  obtain ⟨h0, ⟨h1, h2, h3⟩, h4, h5, h6⟩ := h
  have hb2 : b < W.heap.size := Nat.lt_of_lt_of_le hb h0.size
  have hk2 : k < W.heap.size := Nat.lt_of_lt_of_le hk h0.size
  exact ⟨h0.trans (hw.mono h0.size), ⟨(hw.cell hb2).trans h1, (hw.cell hb2).trans h2, (hw.cell hb2).trans h3⟩, (hw.cell hk2).trans h4, (hw.cell hk2).trans h5, (hw.cell hk2).trans h6⟩

set_option maxRecDepth 100000 in
set_option maxHeartbeats 4000000 in
theorem walk (au : Int) (a a2 : Option Addr) (c c2 : Nat) (os : List OpV) (ms : List MsgV) (w : World) (hr : RdO w a os) (hm : os.length ≤ maxLen) (ht : ∀ k, k < os.length → (os.getD k zop).tx.size ≤ maxLen)
    (hr2 : RdG EMsg w a2 ms) (hm2 : ms.length ≤ maxLen) (ht2 : ∀ k, k < ms.length → (ms.getD k zMsg).o.tx.size ≤ maxLen) :
    Calls Try.prog 7 #[.agg #[.int .i64 au, .slice a os.length c, .slice a2 ms.length c2]] w fun e w' => e = .returned (.bool true) ∧ Below w.heap.size w w' := by
  obtain ⟨w0, hw0⟩ : ∃ w0, w0 = w.alloc (.cells #[.int .i64 au, .slice a os.length c, .slice a2 ms.length c2] 45) := ⟨_, rfl⟩
  have hz : w.heap.size < w0.heap.size := by rw [hw0]; simp
  have hB : Below w.heap.size w w0 := by rw [hw0]; exact (Below.refl _ _).alloc (Nat.le_refl _) _
  have hbx : OwnG ERp 45 w0 w.heap.size 1 1 (fun _ => ⟨au, a, os.length, c, a2, ms.length, c2⟩) := by rw [hw0]; exact box_newG (E := ERp) w #[.int .i64 au, .slice a os.length c, .slice a2 ms.length c2] 45 ⟨au, a, os.length, c, a2, ms.length, c2⟩ rfl
  have HBX := Lib.hid hbx
  have HSZ := Lib.hid (szReplica au a a2 c c2 os ms 1048576 w0 (RdO.below hr hB) hm ht (hr2.below hB) hm2 ht2 (by omega))
  have HTO := Lib.hid (fun W (hW : Below w.heap.size w W) (hl : os.length ≤ 1048576) (hl2 : ms.length ≤ 1048576) => toReplica au a a2 c c2 os ms W (RdO.below hr hW) hl (hr2.below hW) hl2)
  have HB := Lib.hid hB
  have HZ := Lib.hid hz
  have HW := Lib.hid hw0
  have HT := Lib.hid ht
  have HT2 := Lib.hid ht2
  have HR0 := Lib.hid (box_at hbx)
  clear hB hz hw0 hr hr2 hm hm2 ht ht2 hbx
  go_enter Try.func7, Try.ntmps7
  go_wp2_with (first
    | (rw [← HW.out]; refine load_lRp (y := ⟨au, a, os.length, c, a2, ms.length, c2⟩) rfl _ rfl rfl HR0.out ?_)
    | (refine load_lRp (y := ⟨au, a, os.length, c, a2, ms.length, c2⟩) rfl _ rfl rfl HR0.out ?_))
  refine HSZ.out.mono ?_
  rintro e w1 ⟨h, b1⟩
  have hB1 := HB.out.trans (b1.mono HB.out.size)
  have hz1 : w.heap.size < w1.heap.size := Nat.lt_of_lt_of_le HZ.out b1.size
  have HX1 := Lib.hid (HBX.out.below b1)
  have HR1 := Lib.hid (box_at HX1.out)
  clear HBX HR0 HW b1
  rcases h with rfl | ⟨r, h0, h1, h2, h3, rfl⟩
  · go_wp2
    go_ret
    exact ⟨rfl, hB1⟩
  · have hl : os.length ≤ 1048576 := by omega
    have hl2 : ms.length ≤ 1048576 := by omega
    have hr0 : ¬ r < 0 := by omega
    have HTO := Lib.hid (fun W hW => HTO.out W hW hl hl2)
    obtain ⟨v, hv⟩ : ∃ v, vrep au os ms = v := ⟨_, rfl⟩
    have HS := Lib.hid (fun b d n m W h h' => (by have := spec_ValidReplica au b d n m os ms W h hl HT.out h' hl2 HT2.out; rwa [hv] at this : Calls Try.prog 24 #[.agg #[.int .i64 au, .slice b os.length n, .slice d ms.length m]] W fun e w' => e = .returned (.bool v) ∧ Below W.heap.size W w'))
    have HI := Lib.hid (fun b d n m W h h' => (by have := impl_ValidReplica au b d n m os ms W h hl HT.out h' hl2 HT2.out; rwa [hv] at this : Calls Try.prog 26 #[.agg #[.int .i64 au, .slice b os.length n, .slice d ms.length m]] W fun e w' => e = .returned (.bool v) ∧ Below W.heap.size W w'))
    have HL := Lib.hid (And.intro hl hl2)
    clear hv h1 h2 h3 hl hl2
    go_wp2_with (refine load_lRp (y := ⟨au, a, os.length, c, a2, ms.length, c2⟩) rfl _ rfl rfl HR1.out ?_)
    refine (HTO.out _ hB1).mono ?_
    rintro e w2 ⟨b2, d2, rfl, hlb2, hld2, hne2, ho2, hm2, b2b⟩
    have hz2 := b2b.size
    have hB2 := hB1.trans (b2b.mono hB1.size)
    have HX2 := Lib.hid (HX1.out.below b2b)
    clear HX1 HR1
    go_wp2_with fail
    refine (HS.out _ _ _ _ _ ho2.rd hm2.rd).mono ?_
    rintro e w3 ⟨rfl, b3⟩
    have hz3 := b3.size
    have hB3 := hB2.trans (b3.mono hB2.size)
    have HX3 := Lib.hid (HX2.out.below b3)
    have HR3 := Lib.hid (box_at HX3.out)
    clear HX2 ho2 hm2
    go_wp2_with (refine load_lRp (y := ⟨au, a, os.length, c, a2, ms.length, c2⟩) rfl _ rfl rfl HR3.out ?_)
    refine (HTO.out _ hB3).mono ?_
    rintro e w4 ⟨b4, d4, rfl, hlb4, hld4, hne4, ho4, hm4, b4b⟩
    have hz4 := b4b.size
    have hB4 := hB3.trans (b4b.mono hB3.size)
    have HX4 := Lib.hid (HX3.out.below b4b)
    have hbo4 := ho4.lt
    have hbm4 := hm4.lt
    have HO4 := Lib.hid ho4
    have HM4 := Lib.hid hm4
    have HN4 := Lib.hid (box_newG (E := ERp) w4 #[.int .i64 0, .slice none 0 0, .slice none 0 0] 50 zRp rfl)
    have hba : Below w4.heap.size w4 (w4.alloc (.cells #[.int .i64 0, .slice none 0 0, .slice none 0 0] 50)) := (Below.refl _ _).alloc (Nat.le_refl _) _
    have HBA := Lib.hid hba
    clear HX3 HR3 ho4 hm4 hba
    go_wp2_with (first
      | (refine storeRp (v := ⟨au, some ⟨b4, 0, none⟩, os.length, os.length, some ⟨d4, 0, none⟩, ms.length, ms.length⟩) rfl _ _ rfl rfl rfl HN4.out ?_
         intro w5 hb5 o5
         have b45 : Below w4.heap.size w4 w5 := HBA.out.trans o5.2.2
         have HB5 := Lib.hid (hB4.trans (b45.mono (Nat.le_trans hB3.size hz4)))
         have HX5 := Lib.hid (HX4.out.below b45)
         have HO5 := Lib.hid (OwnO.below HO4.out b45)
         have HM5 := Lib.hid (HM4.out.below b45)
         have HQ5 := Lib.hid hb5
         have HL5 := Lib.hid (box_at hb5)
         have hz5 := hb5.lt
         clear hb5 o5 b45)
      | (refine load_iRp (y := ⟨au, some ⟨b4, 0, none⟩, os.length, os.length, some ⟨d4, 0, none⟩, ms.length, ms.length⟩) rfl _ rfl rfl HL5.out ?_))
    refine (HI.out _ _ _ _ _ HO5.out.rd HM5.out.rd).mono ?_
    rintro e w6 ⟨rfl, b6⟩
    have hz6 := b6.size
    have hB6 := HB5.out.trans (b6.mono HB5.out.size)
    have HX6 := Lib.hid (HX5.out.below b6)
    have HQ6 := Lib.hid (HQ5.out.below b6)
    have HO6 := Lib.hid (OwnO.below HO5.out b6)
    have HM6 := Lib.hid (HM5.out.below b6)
    have HB6 := Lib.hid hB6
    have hk6 : w.heap.size < w6.heap.size := by omega
    have hq6 : w4.heap.size < w6.heap.size := by omega
    have HS6 := Lib.hid (And.intro (Below.refl w6.heap.size w6).drew (And.intro (cRp (box_at HX6.out)) (cRp (box_at HQ6.out))) : Below w6.heap.size w6 w6.drew ∧ CRp w6.drew w.heap.size ⟨au, a, os.length, c, a2, ms.length, c2⟩ ∧ CRp w6.drew w4.heap.size ⟨au, some ⟨b4, 0, none⟩, os.length, os.length, some ⟨d4, 0, none⟩, ms.length, ms.length⟩)
    clear HX4 HO4 HM4 HN4 HBA HX5 HO5 HM5 HQ5 HL5 HB5 HS HI HSZ
    cases v
    all_goals
      go_wp2_with fail
      go_region_held3 (fun W => Below w6.heap.size w6 W ∧ CRp W w.heap.size ⟨au, a, os.length, c, a2, ms.length, c2⟩ ∧ CRp W w4.heap.size ⟨au, some ⟨b4, 0, none⟩, os.length, os.length, some ⟨d4, 0, none⟩, ms.length, ms.length⟩)
        (first | exact HS6.out | exact rep3 hk6 hq6 (by assumption) hbn)
        (first
          | (go_at_call 25; refine (HTO.out _ (HB6.out.trans (Below.mono (And.left (by assumption)) HB6.out.size))).mono ?_; rintro e w7 ⟨b7, d7, rfl, hlb7, hld7, hne7, ho7, hm7, hbn⟩)
          | (go_at_call 27; refine (eqReplica au _ _ _ _ _ _ _ _ os ms _ (OwnO.rd (OwnO.below HO6.out (And.left (by assumption)))) ho7.rd HL.out.1 (OwnG.rd (OwnG.below HM6.out (And.left (by assumption)))) hm7.rd HL.out.2).mono ?_; rintro e w8 ⟨rfl, hbn⟩))
      have hB8 := HB6.out.trans (Below.mono (And.left (by assumption : Below w6.heap.size w6 w8 ∧ CRp w8 w.heap.size ⟨au, a, os.length, c, a2, ms.length, c2⟩ ∧ CRp w8 w4.heap.size ⟨au, some ⟨b4, 0, none⟩, os.length, os.length, some ⟨d4, 0, none⟩, ms.length, ms.length⟩)) HB6.out.size)
      go_wp2
      go_ret
      exact ⟨rfl, hB8⟩

end Go.Proofs.Ytdbnflgckcjlcaa.MsG
