/-
  LogMerge and LogInsert of the model, and slices.Clone at operations: contracts. For slices that read as lists of at most 2^20 operations.
-/
import Derived.Test.YtlogpbejfifgdaaLhA
import Derived.Test.YtlogpbejfifgdaaK5
namespace Go.Proofs.Ytlogpbejfifgdaa.LhB
open Go.RowKit Go.Proofs.Ytlogpbejfifgdaa.Base Go.Proofs.Ytlogpbejfifgdaa.St Go.Proofs.Ytlogpbejfifgdaa.StB Go.Proofs.Ytlogpbejfifgdaa.OpA Go.Proofs.Ytlogpbejfifgdaa.OpB Go.Proofs.Ytlogpbejfifgdaa.LgA Go.Proofs.Ytlogpbejfifgdaa.LgB Go.Proofs.Ytlogpbejfifgdaa.LgC Go.Proofs.Ytlogpbejfifgdaa.LgF Go.Proofs.Ytlogpbejfifgdaa.LgI Go.Proofs.Ytlogpbejfifgdaa.LgP Go.Proofs.Ytlogpbejfifgdaa.LgQ Go.Proofs.Ytlogpbejfifgdaa.LgR Go.Proofs.Ytlogpbejfifgdaa.LgT Go.Proofs.Ytlogpbejfifgdaa.LgZ Go.Proofs.Ytlogpbejfifgdaa.LhA
set_option linter.unusedVariables false

theorem lenN (l : List OpV) : l.length = l.length := rfl
/-- slices.Clone. -/
theorem clone (A : Option Addr) (c : Nat) (os : List OpV) (w : World) (hr : RdO w A os) (hl : os.length ≤ 1048576) :
    Calls Try.prog 62 #[.slice A os.length c] w (GivesO w os) := by
  rcases A with _ | ad
  · have h0 : os = [] := by
      rcases hr with h | ⟨b, off, e, _⟩
      · exact h
      · cases e
    subst h0
    clear hr
    have hnil : ∀ w : World, (binOp .eql 23 (.slice none 0 c) (.slice none 0 0)).run Try.prog w = .ok (.bool true) w := fun w => Lib.run_eql_slice_nil w _ _ _ _ _ _ _ Try.underlying23
    go_enter Try.func62, Try.ntmps62
    go_wp2
    go_ret
    exact givesO_nil w
  · have HE := Lib.hid (ownsO_empty w w.heap.size (Nat.le_refl _))
    have B0 : Below w.heap.size w (w.alloc (.cells #[] 27)) := (Below.refl _ _).alloc (Nat.le_refl _) _
    have HRE := Lib.hid (hr.below B0)
    clear hr
    have hnil : ∀ w : World, (binOp .eql 23 (.slice (some ad) os.length c) (.slice none 0 0)).run Try.prog w = .ok (.bool false) w := fun w => Lib.run_eql_slice_nil w _ _ _ _ _ _ _ Try.underlying23
    go_enter Try.func62, Try.ntmps62
    go_wp2_with (with_reducible refine appendOs (ps := os) rfl _ _ rfl rfl rfl HE.out HRE.out (by simp; omega) B0.size ?_; intro v1 w1 hown1 hb1 hz2)
    go_ret
    exact OwnsO.gives hown1 (B0.trans hb1)

/-- The first log with the first k operations of the second. -/
def mf (a b : List OpV) (k : Nat) : List OpV := (b.take k).foldl (fun s e => mstep e id s) a
theorem mf_succ (a b : List OpV) (k : Nat) (h : k < b.length) : mf a b (k + 1) = mstep (b.getD k zop) id (mf a b k) := by
  unfold mf
  rw [List.take_succ_eq_append_getElem h, List.foldl_append, List.getD_eq_getElem?_getD, List.getElem?_eq_getElem h]
  rfl
theorem mf_len (a b : List OpV) (k : Nat) (h : k ≤ b.length) : (mf a b k).length ≤ a.length + k := by
  induction k with
  | zero => simp [mf]
  | succ k ih =>
    rw [mf_succ a b k (by omega)]
    have := mstep_len (b.getD k zop) id 0 (fun s => Nat.le_refl _) (mf a b k)
    have := ih (by omega)
    omega
theorem mf_all (a b : List OpV) (h : vlog b = true) : mf a b b.length = uni b a := by
  unfold mf
  rw [List.take_length]
  refine foldl_uni b (srt_of ?_) a
  unfold vlog at h
  simp only [Bool.and_eq_true] at h
  exact h.2.2
/-- The answer of LogMerge. -/
def mergeL (a b : List OpV) : List OpV := if vlog a && vlog b then (if (uni b a).length ≤ 40 then uni b a else a) else []
def mergeT (a b : List OpV) : Bool := vlog a && (vlog b && decide ((uni b a).length ≤ 40))
/-- The answer of LogInsert. -/
def insL (os : List OpV) (o : OpV) : List OpV := if vlog os then (if vop o && decide ((mstep o id os).length ≤ 40) then mstep o id os else os) else []
def insT (os : List OpV) (o : OpV) : Bool := vlog os && (vop o && decide ((mstep o id os).length ≤ 40))
theorem OwnsO.givesB {w w' : World} {v : Value} {os : List OpV} {t : Bool} (h : OwnsO w' w.heap.size v os) (hb : Below w.heap.size w w') : GivesOB w os t (.returned (.tuple #[v, .bool t])) w' := by
  obtain ⟨a, c, rfl, hr⟩ := ownedO h
  exact ⟨a, c, rfl, hr, hb⟩
theorem nilB {w w' : World} (hb : Below w.heap.size w w') : GivesOB w [] false (.returned (.tuple #[.slice none 0 0, .bool false])) w' := ⟨none, 0, rfl, .inl ⟨rfl, rfl⟩, hb⟩

set_option maxRecDepth 100000 in
set_option maxHeartbeats 4000000 in
theorem spec_LogInsert (A : Option Addr) (c : Nat) (os : List OpV) (o : OpV) (w : World) (hr : RdO w A os) (hl : os.length ≤ 1048576) (hc : os.length ≤ c) (ht : ∀ k, k < os.length → (os.getD k zop).tx.size ≤ maxLen) (ho : o.tx.size ≤ maxLen) :
    Calls Try.prog 15 #[.slice A os.length c, .agg #[.int .i64 o.i, .int .i64 o.j, .int .i64 o.k, .int .i64 o.ts, .int .i64 o.ta, .int .i64 o.fs, .int .i64 o.fa, .int .i64 o.ns, .int .i64 o.na, .int .i64 o.v, .bool o.en, .string o.tx]] w (GivesOB w (insL os o) (insT os o)) := by
  have B0 : Below w.heap.size w (w.alloc (.cells #[.int .i64 o.i, .int .i64 o.j, .int .i64 o.k, .int .i64 o.ts, .int .i64 o.ta, .int .i64 o.fs, .int .i64 o.fa, .int .i64 o.ns, .int .i64 o.na, .int .i64 o.v, .bool o.en, .string o.tx] 27)) := (Below.refl _ _).alloc (Nat.le_refl _) _
  have hz0 : w.heap.size < (w.alloc (.cells #[.int .i64 o.i, .int .i64 o.j, .int .i64 o.k, .int .i64 o.ts, .int .i64 o.ta, .int .i64 o.fs, .int .i64 o.fa, .int .i64 o.ns, .int .i64 o.na, .int .i64 o.v, .bool o.en, .string o.tx] 27)).heap.size := by simp
  have HBX := Lib.hid (boxR w o)
  have HV := Lib.hid (fun W (h : Below w.heap.size w W) => spec_validLog svop A c os W (hr.below h) hl ht)
  have HVO := Lib.hid (fun W => svop o W ho)
  have HI := Lib.hid (fun W (h : Below w.heap.size w W) => spec_insertOp A c os o W (hr.below h) hl hc)
  have HR := Lib.hid hr
  have HIL := Lib.hid (mstep_len o id 0 (fun s => Nat.le_refl _) os)
  obtain ⟨p, hp⟩ : ∃ p, vlog os = p := ⟨_, rfl⟩
  obtain ⟨q, hq⟩ : ∃ q, vop o = q := ⟨_, rfl⟩
  have hx : insL os o = if p then (if q && decide ((mstep o id os).length ≤ 40) then mstep o id os else os) else [] := by rw [← hp, ← hq]; rfl
  have hy : insT os o = (p && (q && decide ((mstep o id os).length ≤ 40))) := by rw [← hp, ← hq]; rfl
  generalize insL os o = R at hx ⊢
  generalize insT os o = T at hy ⊢
  have HX := Lib.hid hx
  have HY := Lib.hid hy
  rw [hp] at HV
  rw [hq] at HVO
  have HPV := Lib.hid hp
  clear hr ht hp hq hx hy
  cases p
  · go_enter Try.func15, Try.ntmps15
    go_wp2_with fail
    refine (HV.out _ B0).mono ?_
    rintro e w1 ⟨rfl, hb1⟩
    go_wp2
    go_ret2
    obtain rfl : R = [] := HX.out
    obtain rfl : T = false := HY.out
    exact nilB (B0.trans (hb1.mono (by simp)))
  · have l1 := len_of HPV.out
    go_enter Try.func15, Try.ntmps15
    go_wp2_with fail
    refine (HV.out _ B0).mono ?_
    rintro e w1 ⟨rfl, hb1⟩
    have hB1 := B0.trans (hb1.mono B0.size)
    have HX1 := Lib.hid (rangeAt_below HBX.out hb1 hz0)
    go_wp2_with (with_reducible refine loadI rfl _ rfl rfl HX1.out ?_)
    refine (HI.out _ hB1).mono ?_
    rintro e w2 ⟨a2, c2, rfl, hle2, hrd2, hcase2, hb2⟩
    have hB2 := hB1.trans (hb2.mono hB1.size)
    have HX2 := Lib.hid (rangeAt_below HX1.out hb2 (rangeAt_lt HX1.out))
    have HRD2 := Lib.hid hrd2
    clear hcase2 hrd2
    go_wp2_with (with_reducible refine loadI rfl _ rfl rfl HX2.out ?_)
    refine (HVO.out _).mono ?_
    rintro e w3 ⟨rfl, hb3⟩
    have hB3 := hB2.trans (hb3.mono hB2.size)
    have hz3 := hB3.size
    have HE := Lib.hid (ownsO_empty w3 w.heap.size hz3)
    have hBE : Below w.heap.size w (w3.alloc (.cells #[] 27)) := hB3.alloc hz3 _
    have HRE := Lib.hid (HR.out.below hBE)
    have HRE2 := Lib.hid ((HRD2.out.below hb3).below ((Below.refl w3.heap.size w3).alloc (Nat.le_refl _) (.cells #[] 27)))
    have hil := HIL.out
    by_cases h40 : (mstep o id os).length ≤ 40
    · have h40' : ¬ (40 : Int) < ((mstep o id os).length : Int) := by omega
      have H40 := Lib.hid h40
      clear h40
      cases q
      · go_wp2_with (with_reducible refine appendOs (ps := os) rfl _ _ rfl rfl rfl HE.out HRE.out (by simp; omega) hBE.size ?_; intro v5 w5 hown5 hb5 hz5)
        go_ret2
        obtain rfl : R = os := HX.out
        obtain rfl : T = false := HY.out
        exact OwnsO.givesB hown5 (hBE.trans hb5)
      · go_wp2_with (with_reducible refine appendOs (ps := mstep o id os) rfl _ _ rfl rfl rfl HE.out HRE2.out (by simp; omega) hBE.size ?_; intro v5 w5 hown5 hb5 hz5)
        go_ret2
        obtain rfl : R = mstep o id os := HX.out.trans (if_pos (decide_eq_true H40.out))
        obtain rfl : T = true := HY.out.trans (decide_eq_true H40.out)
        exact OwnsO.givesB hown5 (hBE.trans hb5)
    · have h40' : (40 : Int) < ((mstep o id os).length : Int) := by omega
      have H40 := Lib.hid h40
      clear h40
      cases q
      all_goals
        go_wp2_with (with_reducible refine appendOs (ps := os) rfl _ _ rfl rfl rfl HE.out HRE.out (by simp; omega) hBE.size ?_; intro v5 w5 hown5 hb5 hz5)
        go_ret2
      · obtain rfl : R = os := HX.out
        obtain rfl : T = false := HY.out
        exact OwnsO.givesB hown5 (hBE.trans hb5)
      · obtain rfl : R = os := HX.out.trans (if_neg (fun h => H40.out (of_decide_eq_true h)))
        obtain rfl : T = false := HY.out.trans (decide_eq_false H40.out)
        exact OwnsO.givesB hown5 (hBE.trans hb5)

end Go.Proofs.Ytlogpbejfifgdaa.LhB
