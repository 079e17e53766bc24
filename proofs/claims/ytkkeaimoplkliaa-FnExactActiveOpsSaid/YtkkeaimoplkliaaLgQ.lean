/-
  LogPrefix and LogMissing of the model: contracts. For slices that read as lists of at most 2^20 entries.
-/
import Derived.Test.YtkkeaimoplkliaaLgP
namespace Go.Proofs.Ytkkeaimoplkliaa.LgQ
open Go.RowKit Go.Proofs.Ytkkeaimoplkliaa.Base Go.Proofs.Ytkkeaimoplkliaa.St Go.Proofs.Ytkkeaimoplkliaa.StB Go.Proofs.Ytkkeaimoplkliaa.Vec Go.Proofs.Ytkkeaimoplkliaa.Row Go.Proofs.Ytkkeaimoplkliaa.VecA Go.Proofs.Ytkkeaimoplkliaa.OpA Go.Proofs.Ytkkeaimoplkliaa.OpB Go.Proofs.Ytkkeaimoplkliaa.LgA Go.Proofs.Ytkkeaimoplkliaa.LgB Go.Proofs.Ytkkeaimoplkliaa.LgC Go.Proofs.Ytkkeaimoplkliaa.LgF Go.Proofs.Ytkkeaimoplkliaa.LgI Go.Proofs.Ytkkeaimoplkliaa.LgP
set_option linter.unusedVariables false

theorem givesO_nil (w : World) : GivesO w [] (.returned (.slice none 0 0)) w := ⟨none, 0, rfl, .inl ⟨rfl, rfl⟩, Below.refl _ _⟩
theorem GivesO.from {w w1 w' : World} {os : List OpV} {e : Ending} (hb : Below w.heap.size w w1) (h : GivesO w1 os e w') : GivesO w os e w' := by
  obtain ⟨a, c, rfl, hr, h2⟩ := h
  refine ⟨a, c, rfl, ?_, hb.trans (h2.mono hb.size)⟩
  rcases hr with hr | ⟨b, rfl, hlo, ho⟩
  · exact .inl hr
  · exact .inr ⟨b, rfl, Nat.le_trans hb.size hlo, ho⟩
/-- The answer of LogPrefix; of LogMissing. -/
def pfx (os : List OpV) (zs : List Int) : List OpV := if vlog os && vv zs then keepTo (con zs) os os.length else []
def mis (os : List OpV) (zs : List Int) : List OpV := if vlog os && vv zs then keepTo (fun o => !con zs o) os os.length else []

set_option maxRecDepth 100000 in
theorem spec_LogPrefix (a ad : Option Addr) (c cv : Nat) (os : List OpV) (zs : List Int) (w : World) (hr : RdO w a os) (hz : Rd w ad zs) (hl : os.length ≤ 1048576) (hl' : zs.length ≤ 1048576) (ht : ∀ k, k < os.length → (os.getD k zop).tx.size ≤ maxLen) :
    Calls Try.prog 35 #[.slice a os.length c, .slice ad zs.length cv] w (GivesO w (pfx os zs)) := by
  have HV := Lib.hid (spec_validLog svop a c os w hr hl ht)
  have HVV := Lib.hid (fun W (h : Below w.heap.size w W) => spec_validVector ad cv zs W (Rd.below hz h) hl')
  have HP := Lib.hid (fun W (h : Below w.heap.size w W) (h1 : vv zs = true) (h2 : allTo os os.length = true) => spec_logPrefix a ad c cv os zs W (hr.below h) (Rd.below hz h) hl h1 h2)
  obtain ⟨p, hp⟩ : ∃ p, vlog os = p := ⟨_, rfl⟩
  obtain ⟨q, hq⟩ : ∃ q, vv zs = q := ⟨_, rfl⟩
  have hx : pfx os zs = if p && q then keepTo (con zs) os os.length else [] := by rw [← hp, ← hq]; rfl
  rw [hx]
  rw [hp] at HV
  rw [hq] at HVV
  have HPV := Lib.hid hp
  have HQV := Lib.hid hq
  clear hr hz ht hp hq hx
  cases p
  · go_enter Try.func35, Try.ntmps35
    go_wp2_with fail
    refine HV.out.mono ?_
    rintro e w1 ⟨rfl, hb1⟩
    go_wp2
    go_ret
    exact GivesO.from hb1 (givesO_nil _)
  · cases q
    · go_enter Try.func35, Try.ntmps35
      go_wp2_with fail
      refine HV.out.mono ?_
      rintro e w1 ⟨rfl, hb1⟩
      go_wp2_with fail
      refine (HVV.out _ hb1).mono ?_
      rintro e w2 ⟨rfl, rfl⟩
      go_wp2
      go_ret
      exact GivesO.from hb1 (givesO_nil _)
    · go_enter Try.func35, Try.ntmps35
      go_wp2_with fail
      refine HV.out.mono ?_
      rintro e w1 ⟨rfl, hb1⟩
      go_wp2_with fail
      refine (HVV.out _ hb1).mono ?_
      rintro e w2 ⟨rfl, rfl⟩
      go_wp2_with fail
      refine (HP.out _ hb1 HQV.out (allTo_of HPV.out)).mono ?_
      rintro e w3 hg
      obtain ⟨a3, c3, rfl, hr3, hb3⟩ := GivesO.from hb1 hg
      go_wp2
      go_ret
      exact ⟨a3, c3, rfl, hr3, hb3⟩

set_option maxRecDepth 100000 in
set_option maxHeartbeats 1000000 in
theorem spec_LogMissing (a ad : Option Addr) (c cv : Nat) (os : List OpV) (zs : List Int) (w : World) (hr : RdO w a os) (hz : Rd w ad zs) (hl : os.length ≤ 1048576) (hl' : zs.length ≤ 1048576) (ht : ∀ k, k < os.length → (os.getD k zop).tx.size ≤ maxLen) :
    Calls Try.prog 38 #[.slice a os.length c, .slice ad zs.length cv] w (GivesO w (mis os zs)) := by
  have HV := Lib.hid (fun W (h : Below w.heap.size w W) => spec_validLog svop a c os W (hr.below h) hl ht)
  have HVV := Lib.hid (fun W (h : Below w.heap.size w W) => spec_validVector ad cv zs W (Rd.below hz h) hl')
  have HZ := Lib.hid hz
  have HE := Lib.hid (ownsO_empty w w.heap.size (Nat.le_refl _))
  have B0 : Below w.heap.size w (w.alloc (.cells #[] 30)) := (Below.refl _ _).alloc (Nat.le_refl _) _
  obtain ⟨p, hp⟩ : ∃ p, vlog os = p := ⟨_, rfl⟩
  obtain ⟨q, hq⟩ : ∃ q, vv zs = q := ⟨_, rfl⟩
  have hx : mis os zs = if p && q then keepTo (fun o => !con zs o) os os.length else [] := by rw [← hp, ← hq]; rfl
  rw [hx]
  rw [hp] at HV
  rw [hq] at HVV
  have HPV := Lib.hid hp
  have HQV := Lib.hid hq
  clear hz ht hp hq hx
  cases p
  · go_enter Try.func38, Try.ntmps38
    go_wp2_with fail
    refine (HV.out _ B0).mono ?_
    rintro e w1 ⟨rfl, hb1⟩
    go_wp2
    go_ret
    exact GivesO.from (B0.trans (hb1.mono (by simp))) (givesO_nil _)
  · cases q
    · go_enter Try.func38, Try.ntmps38
      go_wp2_with fail
      refine (HV.out _ B0).mono ?_
      rintro e w1 ⟨rfl, hb1⟩
      have hb1' := B0.trans (hb1.mono (by simp))
      go_wp2_with fail
      refine (HVV.out _ hb1').mono ?_
      rintro e w2 ⟨rfl, rfl⟩
      go_wp2
      go_ret
      exact GivesO.from hb1' (givesO_nil _)
    · have HOK := Lib.hid (fun k (hk : k < os.length) => vst_of (allTo_of HPV.out) hk)
      rcases hr with rfl | ⟨b, off, rfl, hc⟩
      · go_enter Try.func38, Try.ntmps38
        go_wp2_with fail
        refine (HV.out _ B0).mono ?_
        rintro e w1 ⟨rfl, hb1⟩
        have hb1' := B0.trans (hb1.mono (by simp))
        have hE := HE.out.below hb1
        go_wp2_with fail
        refine (HVV.out _ hb1').mono ?_
        rintro e w2 ⟨rfl, rfl⟩
        go_wp2
        go_rounds 1
        go_ret
        exact hE.gives hb1'
      · have HC := Lib.hid hc
        clear hc
        go_enter Try.func38, Try.ntmps38
        go_wp2_with fail
        refine (HV.out _ B0).mono ?_
        rintro e w1 ⟨rfl, hb1⟩
        have hb1' := B0.trans (hb1.mono (by simp))
        have hE := HE.out.below hb1
        go_wp2_with fail
        refine (HVV.out _ hb1').mono ?_
        rintro e w2 ⟨rfl, rfl⟩
        go_wp2
        go_loopw [5, 6] (fun s i wr => ∃ k : Nat, k ≤ os.length ∧ i = .int .i64 k ∧ OwnsO wr w.heap.size s (keepTo (fun o => !con zs o) os k) ∧ Below w.heap.size w wr) (fun _ i _ => os.length - (intOf i).toNat)
        case atStart => exact ⟨0, Nat.zero_le _, rfl, hE, hb1'⟩
        case round =>
          clear B0
          obtain ⟨k, hk, rfl, hown, hnx⟩ := hrel
          by_cases hlt : k < os.length
          · obtain ⟨o, ho⟩ : ∃ o, o = os.getD k zop := ⟨_, rfl⟩
            have hr := (by rw [ho]; exact rangeAt_below (HC.out k hlt) hnx (rangeAt_lt (HC.out k hlt)) : wr.rangeAt b (off + k * 12) (opL o))
            have HR := Lib.hid hr
            have hlb := rangeAt_lt hr
            obtain ⟨q0, q1, _, _, _, _, _, _, _, _, _, _⟩ := c12 hr
            have hst : vst o.i o.j = true := by rw [ho]; exact HOK.out k hlt
            have HCon := Lib.hid (fun (W : World) (h : Below w.heap.size w W) => spec_vectorContains ad cv zs o.i o.j W (Rd.below HZ.out h) HQV.out hst)
            have hkl := keepTo_len (fun o => !con zs o) os k
            have HO := Lib.hid ho
            obtain ⟨p, hp⟩ : ∃ p, con zs o = p := ⟨_, rfl⟩
            have hp' : decide (o.i ≤ zs.getD o.j.toNat 0) = p := hp
            rw [hp'] at HCon
            have HP := Lib.hid hp
            clear ho hr hp hp' hst
            cases p
            · go_wp2_with fail
              refine (HCon.out _ hnx).mono ?_
              rintro e w3 ⟨rfl, hb3⟩
              have HR1 := Lib.hid (rangeAt_below HR.out hb3 hlb)
              have hown1 := hown.below hb3
              have hnx1 := hnx.trans (hb3.mono hnx.size)
              have hsz1 := hnx1.size
              clear hown q0 q1
              go_wp2_with (first
                | (refine loadI rfl _ rfl rfl HR1.out ?_)
                | (with_reducible refine appendO (o := o) rfl _ _ rfl rfl rfl hown1 (by omega) hsz1 ?_; intro v2 w4 hown2 hb4 hsz2))
              go_roundw
              case rel => exact ⟨k + 1, by omega, by go_num, by rw [keepTo, if_pos (by rw [← HO.out, HP.out]; rfl), ← HO.out]; exact hown2, hnx1.trans hb4⟩
              case measure => simp [intOf]; omega
            · go_wp2_with fail
              refine (HCon.out _ hnx).mono ?_
              rintro e w3 ⟨rfl, hb3⟩
              go_wp2
              go_roundw
              case rel => exact ⟨k + 1, by omega, by go_num, by rw [keepTo, if_neg (by rw [← HO.out, HP.out]; exact Bool.false_ne_true)]; exact hown.below hb3, hnx.trans (hb3.mono hnx.size)⟩
              case measure => simp [intOf]; omega
          · obtain rfl : k = os.length := by omega
            go_wp2
            go_ret
            exact hown.gives hnx

end Go.Proofs.Ytkkeaimoplkliaa.LgQ
