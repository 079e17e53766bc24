/-
  LogMerge and LogInsert of the program: contracts. For slices that read as lists of at most 2^20 operations.
-/
import Derived.Test.YtlogpbejfifgdaaGreatLhC
import Derived.Test.YtlogpbejfifgdaaGreatK2
namespace Go.Proofs.YtlogpbejfifgdaaGreat.LhD
open Go.RowKit Go.Proofs.YtlogpbejfifgdaaGreat.Base Go.Proofs.YtlogpbejfifgdaaGreat.St Go.Proofs.YtlogpbejfifgdaaGreat.StB Go.Proofs.YtlogpbejfifgdaaGreat.OpA Go.Proofs.YtlogpbejfifgdaaGreat.OpB Go.Proofs.YtlogpbejfifgdaaGreat.LgA Go.Proofs.YtlogpbejfifgdaaGreat.LgB Go.Proofs.YtlogpbejfifgdaaGreat.LgC Go.Proofs.YtlogpbejfifgdaaGreat.LgF Go.Proofs.YtlogpbejfifgdaaGreat.LgG Go.Proofs.YtlogpbejfifgdaaGreat.LgH Go.Proofs.YtlogpbejfifgdaaGreat.LgI Go.Proofs.YtlogpbejfifgdaaGreat.LgP Go.Proofs.YtlogpbejfifgdaaGreat.LgQ Go.Proofs.YtlogpbejfifgdaaGreat.LgR Go.Proofs.YtlogpbejfifgdaaGreat.LgT Go.Proofs.YtlogpbejfifgdaaGreat.LgZ Go.Proofs.YtlogpbejfifgdaaGreat.LhA Go.Proofs.YtlogpbejfifgdaaGreat.LhB Go.Proofs.YtlogpbejfifgdaaGreat.LhC
set_option linter.unusedVariables false

theorem givesB {w W W' : World} {os : List OpV} {e : Ending} {t : Bool} (hb : Below w.heap.size w W) (h : GivesO W os e W') : ∃ a c, e = .returned (.slice a os.length c) ∧ GivesOB w os t (.returned (.tuple #[.slice a os.length c, .bool t])) W' := by
  obtain ⟨a, c, rfl, hr, h2⟩ := GivesO.from hb h
  exact ⟨a, c, rfl, a, c, rfl, hr, h2⟩
theorem GivesOB.from {w w1 w' : World} {os : List OpV} {t : Bool} {e : Ending} (hb : Below w.heap.size w w1) (h : GivesOB w1 os t e w') : GivesOB w os t e w' := by
  obtain ⟨a, c, rfl, hr, h2⟩ := h
  refine ⟨a, c, rfl, ?_, hb.trans (h2.mono hb.size)⟩
  rcases hr with hr | ⟨b, rfl, hlo, ho⟩
  · exact .inl hr
  · exact .inr ⟨b, rfl, Nat.le_trans hb.size hlo, ho⟩

set_option maxRecDepth 100000 in
set_option maxHeartbeats 4000000 in
theorem impl_LogMerge (A B : Option Addr) (c d : Nat) (os ps : List OpV) (w : World) (hr : RdO w A os) (hs : RdO w B ps) (hl : os.length ≤ 1048576) (hl' : ps.length ≤ 1048576) (hc : os.length ≤ c) (ht : ∀ k, k < os.length → (os.getD k zop).tx.size ≤ maxLen) (ht' : ∀ k, k < ps.length → (ps.getD k zop).tx.size ≤ maxLen) :
    Calls Tryz.prog 18 #[.slice A os.length c, .slice B ps.length d] w (GivesOB w (mergeL os ps) (mergeT os ps)) := by
  have HV := Lib.hid (impl_ValidLog ivop A c os w hr hl ht)
  have HVV := Lib.hid (fun W (h : Below w.heap.size w W) => impl_ValidLog ivop B d ps W (hs.below h) hl' ht')
  have HU := Lib.hid (fun W (h : Below w.heap.size w W) (l1 : os.length ≤ 40) (l2 : ps.length ≤ 40) => union A B c d os ps W (hr.below h) (hs.below h) l1 l2 hc)
  have HC := Lib.hid (fun W (h : Below w.heap.size w W) => clone A c os W (hr.below h) hl)
  obtain ⟨p, hp⟩ : ∃ p, vlog os = p := ⟨_, rfl⟩
  obtain ⟨q, hq⟩ : ∃ q, vlog ps = q := ⟨_, rfl⟩
  have hx : mergeL os ps = if p && q then (if (uni ps os).length ≤ 40 then uni ps os else os) else [] := by rw [← hp, ← hq]; rfl
  have hy : mergeT os ps = (p && (q && decide ((uni ps os).length ≤ 40))) := by rw [← hp, ← hq]; rfl
  generalize mergeL os ps = R at hx ⊢
  generalize mergeT os ps = T at hy ⊢
  have HX := Lib.hid hx
  have HY := Lib.hid hy
  rw [hp] at HV
  rw [hq] at HVV
  have HPV := Lib.hid hp
  have HQV := Lib.hid hq
  clear hr hs ht ht' hp hq hx hy
  cases p
  · go_enter Tryz.func18, Tryz.ntmps18
    go_wp2_with fail
    refine HV.out.mono ?_
    rintro e w1 ⟨rfl, hb1⟩
    go_wp2
    go_ret2
    obtain rfl : R = [] := HX.out
    obtain rfl : T = false := HY.out
    exact nilB hb1
  · cases q
    · go_enter Tryz.func18, Tryz.ntmps18
      go_wp2_with fail
      refine HV.out.mono ?_
      rintro e w1 ⟨rfl, hb1⟩
      go_wp2_with fail
      refine (HVV.out _ hb1).mono ?_
      rintro e w2 ⟨rfl, hb2⟩
      go_wp2
      go_ret2
      obtain rfl : R = [] := HX.out
      obtain rfl : T = false := HY.out
      exact nilB (hb1.trans (hb2.mono hb1.size))
    · have l1 := len_of HPV.out
      have l2 := len_of HQV.out
      go_enter Tryz.func18, Tryz.ntmps18
      go_wp2_with fail
      refine HV.out.mono ?_
      rintro e w1 ⟨rfl, hb1⟩
      go_wp2_with fail
      refine (HVV.out _ hb1).mono ?_
      rintro e w2 ⟨rfl, hb2⟩
      have hB2 := hb1.trans (hb2.mono hb1.size)
      go_wp2_with fail
      refine (opSet _ _ _ _).mono ?_
      rintro e w3 ⟨rfl, hb3⟩
      have hB3 := hB2.trans (hb3.mono hB2.size)
      go_wp2_with fail
      refine (opSet _ _ _ _).mono ?_
      rintro e w4 ⟨rfl, hb4⟩
      have hB4 := hB3.trans (hb4.mono hB3.size)
      go_wp2_with fail
      refine (HU.out _ hB4 l1 l2).mono ?_
      rintro e w5 ⟨v, rfl, hown, hb5⟩
      have hB5 := hB4.trans (hb5.mono hB4.size)
      have hown5 := OwnsO.lower hown hB4.size
      obtain ⟨av, cv, rfl, _⟩ := ownedO hown5
      have hz5 := hB5.size
      have HOW := Lib.hid hown5
      clear hown hown5
      by_cases h40 : (uni ps os).length ≤ 40
      · have h40' : ¬ (40 : Int) < ((uni ps os).length : Int) := by omega
        have H40 := Lib.hid h40
        clear h40
        go_wp2
        go_ret2
        obtain rfl : R = uni ps os := HX.out.trans (if_pos H40.out)
        obtain rfl : T = true := HY.out.trans (decide_eq_true H40.out)
        exact OwnsO.givesB (OwnsO.below HOW.out ((Below.refl _ _).alloc (Nat.le_refl _) _)) (hB5.alloc hz5 _)
      · have h40' : (40 : Int) < ((uni ps os).length : Int) := by omega
        have H40 := Lib.hid h40
        clear h40
        go_wp2_with fail
        refine (HC.out _ (hB5.alloc hz5 _)).mono ?_
        rintro e w6 hg
        obtain ⟨a6, c6, rfl, hg6⟩ := givesB (t := false) (hB5.alloc hz5 _) hg
        have HG := Lib.hid hg6
        clear hg hg6
        go_wp2
        go_ret2
        obtain rfl : R = os := HX.out.trans (if_neg H40.out)
        obtain rfl : T = false := HY.out.trans (decide_eq_false H40.out)
        exact HG.out

theorem vlog_one (o : OpV) : vlog [o] = vop o := by
  show (decide (1 ≤ 40) && ((List.range 1).all (fun i => vop ([o].getD i zop)) && ascTo [o] 0)) = vop o
  simp [ascTo, List.range_succ]
theorem uni_one (o : OpV) (os : List OpV) : uni [o] os = mstep o id os := rfl

end Go.Proofs.YtlogpbejfifgdaaGreat.LhD
