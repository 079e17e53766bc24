/-
  LogMerge and LogInsert of the model, and slices.Clone at operations: contracts. For slices that read as lists of at most 2^20 operations.
-/
import Derived.Test.YtmhflifaeplalaaLhA
import Derived.Test.YtmhflifaeplalaaK5
namespace Go.Proofs.Ytmhflifaeplalaa.LhB
open Go.RowKit Go.Proofs.Ytmhflifaeplalaa.Base Go.Proofs.Ytmhflifaeplalaa.St Go.Proofs.Ytmhflifaeplalaa.StB Go.Proofs.Ytmhflifaeplalaa.OpA Go.Proofs.Ytmhflifaeplalaa.OpB Go.Proofs.Ytmhflifaeplalaa.LgA Go.Proofs.Ytmhflifaeplalaa.LgB Go.Proofs.Ytmhflifaeplalaa.LgC Go.Proofs.Ytmhflifaeplalaa.LgF Go.Proofs.Ytmhflifaeplalaa.LgI Go.Proofs.Ytmhflifaeplalaa.LgP Go.Proofs.Ytmhflifaeplalaa.LgQ Go.Proofs.Ytmhflifaeplalaa.LgR Go.Proofs.Ytmhflifaeplalaa.LgT Go.Proofs.Ytmhflifaeplalaa.LgZ Go.Proofs.Ytmhflifaeplalaa.LhA
set_option linter.unusedVariables false

theorem lenN (l : List OpV) : l.length = l.length := rfl
/-- slices.Clone. -/
theorem clone (A : Option Addr) (c : Nat) (os : List OpV) (w : World) (hr : RdO w A os) (hl : os.length ≤ 1048576) :
    Calls Try.prog 71 #[.slice A os.length c] w (GivesO w os) := by
  rcases A with _ | ad
  · have h0 : os = [] := by
      rcases hr with h | ⟨b, off, e, _⟩
      · exact h
      · cases e
    subst h0
    clear hr
    have hnil : ∀ w : World, (binOp .eql 48 (.slice none 0 c) (.slice none 0 0)).run Try.prog w = .ok (.bool true) w := fun w => Lib.run_eql_slice_nil w _ _ _ _ _ _ _ Try.underlying48
    go_enter Try.func71, Try.ntmps71
    go_wp2
    go_ret
    exact givesO_nil w
  · have HE := Lib.hid (ownsO_empty w w.heap.size (Nat.le_refl _))
    have B0 : Below w.heap.size w (w.alloc (.cells #[] 54)) := (Below.refl _ _).alloc (Nat.le_refl _) _
    have HRE := Lib.hid (hr.below B0)
    clear hr
    have hnil : ∀ w : World, (binOp .eql 48 (.slice (some ad) os.length c) (.slice none 0 0)).run Try.prog w = .ok (.bool false) w := fun w => Lib.run_eql_slice_nil w _ _ _ _ _ _ _ Try.underlying48
    go_enter Try.func71, Try.ntmps71
    go_wp2_with (with_reducible refine appendOs (ps := os) rfl _ _ rfl rfl rfl HE.out HRE.out (by simp; omega) B0.size ?_; intro v1 w1 hown1 hb1 hz2)
    go_ret
    exact OwnsO.gives hown1 (B0.trans hb1)

/-- The first log with the first k operations of the second. -/
def mf (a b : List OpV) (k : Nat) : List OpV := (b.take k).foldl (fun s e => mstep e id s) a
theorem mf_succ (a b : List OpV) (k : Nat) (h : k < b.length) : mf a b (k + 1) = mstep (b.getD k zop) id (mf a b k) := by
  unfold mf
  rw [List.take_succ_eq_append_getElem h, List.foldl_append, List.getD_eq_getElem?_getD, List.getElem?_eq_getElem h]
  rfl
theorem mf_len (a b : List OpV) (k : Nat) (h : k ≤ b.length) : (mf a b k).length ≤ a.length + k := by
  induction k with
  | zero => simp [mf]
  | succ k ih =>
    rw [mf_succ a b k (by omega)]
    have := mstep_len (b.getD k zop) id 0 (fun s => Nat.le_refl _) (mf a b k)
    have := ih (by omega)
    omega
theorem mf_all (a b : List OpV) (h : vlog b = true) : mf a b b.length = uni b a := by
  unfold mf
  rw [List.take_length]
  refine foldl_uni b (srt_of ?_) a
  unfold vlog at h
  simp only [Bool.and_eq_true] at h
  exact h.2.2
/-- The answer of LogMerge. -/
def mergeL (a b : List OpV) : List OpV := if vlog a && vlog b then (if (uni b a).length ≤ 40 then uni b a else a) else []
def mergeT (a b : List OpV) : Bool := vlog a && (vlog b && decide ((uni b a).length ≤ 40))
/-- The answer of LogInsert. -/
def insL (os : List OpV) (o : OpV) : List OpV := if vlog os then (if vop o && decide ((mstep o id os).length ≤ 40) then mstep o id os else os) else []
def insT (os : List OpV) (o : OpV) : Bool := vlog os && (vop o && decide ((mstep o id os).length ≤ 40))
theorem OwnsO.givesB {w w' : World} {v : Value} {os : List OpV} {t : Bool} (h : OwnsO w' w.heap.size v os) (hb : Below w.heap.size w w') : GivesOB w os t (.returned (.tuple #[v, .bool t])) w' := by
  obtain ⟨a, c, rfl, hr⟩ := ownedO h
  exact ⟨a, c, rfl, hr, hb⟩
theorem nilB {w w' : World} (hb : Below w.heap.size w w') : GivesOB w [] false (.returned (.tuple #[.slice none 0 0, .bool false])) w' := ⟨none, 0, rfl, .inl ⟨rfl, rfl⟩, hb⟩

set_option maxRecDepth 100000 in
set_option maxHeartbeats 4000000 in
theorem spec_LogMerge (A B : Option Addr) (c d : Nat) (os ps : List OpV) (w : World) (hr : RdO w A os) (hs : RdO w B ps) (hl : os.length ≤ 1048576) (hl' : ps.length ≤ 1048576) (ht : ∀ k, k < os.length → (os.getD k zop).tx.size ≤ maxLen) (ht' : ∀ k, k < ps.length → (ps.getD k zop).tx.size ≤ maxLen) :
    Calls Try.prog 42 #[.slice A os.length c, .slice B ps.length d] w (GivesOB w (mergeL os ps) (mergeT os ps)) := by
  have HV := Lib.hid (spec_validLog svop A c os w hr hl ht)
  have HVV := Lib.hid (fun W (h : Below w.heap.size w W) => spec_validLog svop B d ps W (hs.below h) hl' ht')
  have HR := Lib.hid hr
  have HS := Lib.hid hs
  obtain ⟨p, hp⟩ : ∃ p, vlog os = p := ⟨_, rfl⟩
  obtain ⟨q, hq⟩ : ∃ q, vlog ps = q := ⟨_, rfl⟩
  have hx : mergeL os ps = if p && q then (if (uni ps os).length ≤ 40 then uni ps os else os) else [] := by rw [← hp, ← hq]; rfl
  have hy : mergeT os ps = (p && (q && decide ((uni ps os).length ≤ 40))) := by rw [← hp, ← hq]; rfl
  generalize mergeL os ps = R at hx ⊢
  generalize mergeT os ps = T at hy ⊢
  have HX := Lib.hid hx
  have HY := Lib.hid hy
  rw [hp] at HV
  rw [hq] at HVV
  have HPV := Lib.hid hp
  have HQV := Lib.hid hq
  clear hr hs ht ht' hp hq hx hy
  cases p
  · go_enter Try.func42, Try.ntmps42
    go_wp2_with fail
    refine HV.out.mono ?_
    rintro e w1 ⟨rfl, hb1⟩
    go_wp2
    go_ret2
    obtain rfl : R = [] := HX.out
    obtain rfl : T = false := HY.out
    exact nilB hb1
  · cases q
    · go_enter Try.func42, Try.ntmps42
      go_wp2_with fail
      refine HV.out.mono ?_
      rintro e w1 ⟨rfl, hb1⟩
      go_wp2_with fail
      refine (HVV.out _ hb1).mono ?_
      rintro e w2 ⟨rfl, hb2⟩
      go_wp2
      go_ret2
      obtain rfl : R = [] := HX.out
      obtain rfl : T = false := HY.out
      exact nilB (hb1.trans (hb2.mono hb1.size))
    · have l1 := len_of HPV.out
      have l2 := len_of HQV.out
      go_enter Try.func42, Try.ntmps42
      go_wp2_with fail
      refine HV.out.mono ?_
      rintro e w1 ⟨rfl, hb1⟩
      go_wp2_with fail
      refine (HVV.out _ hb1).mono ?_
      rintro e w2 ⟨rfl, hb2⟩
      have hB2 := hb1.trans (hb2.mono hb1.size)
      have hz2 := hB2.size
      have HE := Lib.hid (ownsO_empty w2 w.heap.size hz2)
      have hBE : Below w.heap.size w (w2.alloc (.cells #[] 54)) := hB2.alloc hz2 _
      have HRE := Lib.hid (HR.out.below hBE)
      go_wp2_with (with_reducible refine appendOs (ps := os) rfl _ _ rfl rfl rfl HE.out HRE.out (by simp; omega) hBE.size ?_; intro v3 w3 hown3 hb3 hz3)
      go_loopw [6, 7] (fun s i wr => ∃ k : Nat, k ≤ ps.length ∧ i = .int .i64 k ∧ OwnsO wr w.heap.size s (mf os ps k) ∧ Below w.heap.size w wr) (fun _ i _ => ps.length - (intOf i).toNat)
      case atStart => exact ⟨0, Nat.zero_le _, rfl, hown3, hBE.trans hb3⟩
      case round =>
        obtain ⟨k, hk, rfl, hown, hnx⟩ := hrel
        have hml := mf_len os ps k hk
        by_cases hlt : k < ps.length
        · rcases HS.out with h0 | ⟨b, off, rfl, hcc⟩
          · rw [h0] at hlt
            cases hlt
          obtain ⟨o, ho⟩ : ∃ o, o = ps.getD k zop := ⟨_, rfl⟩
          have HO := Lib.hid (by rw [ho]; exact rangeAt_below (hcc k hlt) hnx (rangeAt_lt (hcc k hlt)) : wr.rangeAt b (off + k * 12) (opL o))
          have HQ := Lib.hid ho
          obtain ⟨av, cv, rfl, hrow⟩ := ownedO hown
          have HI := Lib.hid (spec_insertOp av cv (mf os ps k) o wr hrow.rd (by omega) (own_le hown))
          have HOW := Lib.hid hown
          clear ho hcc hrow hown
          go_wp2_with (refine loadI rfl _ rfl rfl HO.out ?_)
          refine HI.out.mono ?_
          rintro e w4 ⟨a4, c4, rfl, hle4, hrd4, hcase, hb4⟩
          go_wp2
          go_roundw
          case rel =>
            refine ⟨k + 1, by omega, by go_num, ?_, hnx.trans (hb4.mono hnx.size)⟩
            rw [mf_succ os ps k hlt, ← HQ.out]
            rcases hcase with ⟨e1, e2, e3⟩ | h
            · subst e1 e2
              rw [e3]
              exact HOW.out.below hb4
            · exact OwnsO.lower h hnx.size
          case measure => simp [intOf]; omega
        · obtain rfl : k = ps.length := by omega
          rw [mf_all os ps HQV.out] at hown
          obtain ⟨av, cv, rfl, hrow⟩ := ownedO hown
          have hz4 := hnx.size
          clear hml hrow
          by_cases h40 : (uni ps os).length ≤ 40
          · have h40' : ¬ (40 : Int) < ((uni ps os).length : Int) := by omega
            have H40 := Lib.hid h40
            clear h40
            go_wp2
            go_ret2
            obtain rfl : R = uni ps os := by have h := HX.out; exact h.trans (if_pos H40.out)
            obtain rfl : T = true := by have h := HY.out; rw [decide_eq_true H40.out] at h; exact h
            exact OwnsO.givesB hown hnx
          · have h40' : (40 : Int) < ((uni ps os).length : Int) := by omega
            have H40 := Lib.hid h40
            clear h40
            have HE4 := Lib.hid (ownsO_empty wr w.heap.size hz4)
            have hB4 : Below w.heap.size w (wr.alloc (.cells #[] 54)) := hnx.alloc hz4 _
            have HR4 := Lib.hid (HR.out.below hB4)
            go_wp2_with (with_reducible refine appendOs (ps := os) rfl _ _ rfl rfl rfl HE4.out HR4.out (by simp; omega) hB4.size ?_; intro v5 w5 hown5 hb5 hz5)
            go_ret2
            obtain rfl : R = os := by have h := HX.out; exact h.trans (if_neg H40.out)
            obtain rfl : T = false := by have h := HY.out; rw [decide_eq_false H40.out] at h; exact h
            exact OwnsO.givesB hown5 (hB4.trans hb5)

set_option maxRecDepth 100000 in
set_option maxHeartbeats 4000000 in
theorem spec_LogInsert (A : Option Addr) (c : Nat) (os : List OpV) (o : OpV) (w : World) (hr : RdO w A os) (hl : os.length ≤ 1048576) (hc : os.length ≤ c) (ht : ∀ k, k < os.length → (os.getD k zop).tx.size ≤ maxLen) (ho : o.tx.size ≤ maxLen) :
    Calls Try.prog 36 #[.slice A os.length c, .agg #[.int .i64 o.i, .int .i64 o.j, .int .i64 o.k, .int .i64 o.ts, .int .i64 o.ta, .int .i64 o.fs, .int .i64 o.fa, .int .i64 o.ns, .int .i64 o.na, .int .i64 o.v, .bool o.en, .string o.tx]] w (GivesOB w (insL os o) (insT os o)) := by
  have B0 : Below w.heap.size w (w.alloc (.cells #[.int .i64 o.i, .int .i64 o.j, .int .i64 o.k, .int .i64 o.ts, .int .i64 o.ta, .int .i64 o.fs, .int .i64 o.fa, .int .i64 o.ns, .int .i64 o.na, .int .i64 o.v, .bool o.en, .string o.tx] 54)) := (Below.refl _ _).alloc (Nat.le_refl _) _
  have hz0 : w.heap.size < (w.alloc (.cells #[.int .i64 o.i, .int .i64 o.j, .int .i64 o.k, .int .i64 o.ts, .int .i64 o.ta, .int .i64 o.fs, .int .i64 o.fa, .int .i64 o.ns, .int .i64 o.na, .int .i64 o.v, .bool o.en, .string o.tx] 54)).heap.size := by simp
  have HBX := Lib.hid (boxR w o)
  have HV := Lib.hid (fun W (h : Below w.heap.size w W) => spec_validLog svop A c os W (hr.below h) hl ht)
  have HVO := Lib.hid (fun W => svop o W ho)
  have HI := Lib.hid (fun W (h : Below w.heap.size w W) => spec_insertOp A c os o W (hr.below h) hl hc)
  have HR := Lib.hid hr
  have HIL := Lib.hid (mstep_len o id 0 (fun s => Nat.le_refl _) os)
  obtain ⟨p, hp⟩ : ∃ p, vlog os = p := ⟨_, rfl⟩
  obtain ⟨q, hq⟩ : ∃ q, vop o = q := ⟨_, rfl⟩
  have hx : insL os o = if p then (if q && decide ((mstep o id os).length ≤ 40) then mstep o id os else os) else [] := by rw [← hp, ← hq]; rfl
  have hy : insT os o = (p && (q && decide ((mstep o id os).length ≤ 40))) := by rw [← hp, ← hq]; rfl
  generalize insL os o = R at hx ⊢
  generalize insT os o = T at hy ⊢
  have HX := Lib.hid hx
  have HY := Lib.hid hy
  rw [hp] at HV
  rw [hq] at HVO
  have HPV := Lib.hid hp
  clear hr ht hp hq hx hy
  cases p
  · go_enter Try.func36, Try.ntmps36
    go_wp2_with fail
    refine (HV.out _ B0).mono ?_
    rintro e w1 ⟨rfl, hb1⟩
    go_wp2
    go_ret2
    obtain rfl : R = [] := HX.out
    obtain rfl : T = false := HY.out
    exact nilB (B0.trans (hb1.mono (by simp)))
  · have l1 := len_of HPV.out
    go_enter Try.func36, Try.ntmps36
    go_wp2_with fail
    refine (HV.out _ B0).mono ?_
    rintro e w1 ⟨rfl, hb1⟩
    have hB1 := B0.trans (hb1.mono B0.size)
    have HX1 := Lib.hid (rangeAt_below HBX.out hb1 hz0)
    go_wp2_with (with_reducible refine loadI rfl _ rfl rfl HX1.out ?_)
    refine (HI.out _ hB1).mono ?_
    rintro e w2 ⟨a2, c2, rfl, hle2, hrd2, hcase2, hb2⟩
    have hB2 := hB1.trans (hb2.mono hB1.size)
    have HX2 := Lib.hid (rangeAt_below HX1.out hb2 (rangeAt_lt HX1.out))
    have HRD2 := Lib.hid hrd2
    clear hcase2 hrd2
    go_wp2_with (with_reducible refine loadI rfl _ rfl rfl HX2.out ?_)
    refine (HVO.out _).mono ?_
    rintro e w3 ⟨rfl, hb3⟩
    have hB3 := hB2.trans (hb3.mono hB2.size)
    have hz3 := hB3.size
    have HE := Lib.hid (ownsO_empty w3 w.heap.size hz3)
    have hBE : Below w.heap.size w (w3.alloc (.cells #[] 54)) := hB3.alloc hz3 _
    have HRE := Lib.hid (HR.out.below hBE)
    have HRE2 := Lib.hid ((HRD2.out.below hb3).below ((Below.refl w3.heap.size w3).alloc (Nat.le_refl _) (.cells #[] 54)))
    have hil := HIL.out
    by_cases h40 : (mstep o id os).length ≤ 40
    · have h40' : ¬ (40 : Int) < ((mstep o id os).length : Int) := by omega
      have H40 := Lib.hid h40
      clear h40
      cases q
      · go_wp2_with (with_reducible refine appendOs (ps := os) rfl _ _ rfl rfl rfl HE.out HRE.out (by simp; omega) hBE.size ?_; intro v5 w5 hown5 hb5 hz5)
        go_ret2
        obtain rfl : R = os := HX.out
        obtain rfl : T = false := HY.out
        exact OwnsO.givesB hown5 (hBE.trans hb5)
      · go_wp2_with (with_reducible refine appendOs (ps := mstep o id os) rfl _ _ rfl rfl rfl HE.out HRE2.out (by simp; omega) hBE.size ?_; intro v5 w5 hown5 hb5 hz5)
        go_ret2
        obtain rfl : R = mstep o id os := HX.out.trans (if_pos (decide_eq_true H40.out))
        obtain rfl : T = true := HY.out.trans (decide_eq_true H40.out)
        exact OwnsO.givesB hown5 (hBE.trans hb5)
    · have h40' : (40 : Int) < ((mstep o id os).length : Int) := by omega
      have H40 := Lib.hid h40
      clear h40
      cases q
      all_goals
        go_wp2_with (with_reducible refine appendOs (ps := os) rfl _ _ rfl rfl rfl HE.out HRE.out (by simp; omega) hBE.size ?_; intro v5 w5 hown5 hb5 hz5)
        go_ret2
      · obtain rfl : R = os := HX.out
        obtain rfl : T = false := HY.out
        exact OwnsO.givesB hown5 (hBE.trans hb5)
      · obtain rfl : R = os := HX.out.trans (if_neg (fun h => H40.out (of_decide_eq_true h)))
        obtain rfl : T = false := HY.out.trans (decide_eq_false H40.out)
        exact OwnsO.givesB hown5 (hBE.trans hb5)

end Go.Proofs.Ytmhflifaeplalaa.LhB
