/-
  Contracts of the small functions on stamps: inRange, validStamp, ValidStamp, isAuthor of both packages, and the law's own toStamp. For every argument; no condition.
-/
import Derived.Test.YtdbnflgckcjlcaaBase
import Derived.BigQuiet
import Derived.Deep.QuietTactic
import Derived.Deep.RegionHeld3
import Derived.Handy
namespace Go.Proofs.Ytdbnflgckcjlcaa.St
open Go.RowKit Go.Proofs.Ytdbnflgckcjlcaa.Base

theorem spec_inRange (n lo hi : Int) (w : World) :
    Calls Try.prog 81 #[.int .i64 n, .int .i64 lo, .int .i64 hi] w fun e w' => e = .returned (.bool (inR n lo hi)) ∧ w = w' := by
  by_cases h1 : lo ≤ n
  · go_enter Try.func81, Try.ntmps81
    go_wp2
    go_ret
    exact ⟨ret_bool (by simp [inR]; omega), rfl⟩
  · go_enter Try.func81, Try.ntmps81
    go_wp2
    go_ret
    exact ⟨ret_bool (by simp [inR]; omega), rfl⟩

theorem impl_inRange (n lo hi : Int) (w : World) :
    Calls Try.prog 83 #[.int .i64 n, .int .i64 lo, .int .i64 hi] w fun e w' => e = .returned (.bool (inR n lo hi)) ∧ w = w' := by
  by_cases h1 : lo ≤ n
  · go_enter Try.func83, Try.ntmps83
    go_wp2
    go_ret
    exact ⟨ret_bool (by simp [inR]; omega), rfl⟩
  · go_enter Try.func83, Try.ntmps83
    go_wp2
    go_ret
    exact ⟨ret_bool (by simp [inR]; omega), rfl⟩

theorem impl_isAuthor (n : Int) (w : World) :
    Calls Try.prog 55 #[.int .i64 n] w fun e w' => e = .returned (.bool (inR n 0 2)) ∧ w = w' := by
  go_enter Try.func55, Try.ntmps55
  go_wp2_with (go_at_call 83; refine (impl_inRange _ _ _ _).mono ?_; rintro e w' ⟨rfl, rfl⟩)
  go_ret
  exact ⟨rfl, rfl⟩

theorem spec_validStamp (s a : Int) (w : World) :
    Calls Try.prog 86 #[.agg #[.int .i64 s, .int .i64 a]] w fun e w' => e = .returned (.bool (vst s a)) ∧ Below w.heap.size w w' := by
  cases h : inR s 1 99
  all_goals
    go_enter Try.func86, Try.ntmps86
    go_wp2_with (go_at_call 81; refine (spec_inRange _ _ _ _).mono ?_; rintro e w' ⟨rfl, rfl⟩)
    go_ret
    exact ⟨ret_bool (by simp [vst, h]), (Below.refl _ _).alloc (Nat.le_refl _) _⟩

theorem impl_ValidStamp (s a : Int) (w : World) :
    Calls Try.prog 100 #[.agg #[.int .i64 s, .int .i64 a]] w fun e w' => e = .returned (.bool (vst s a)) ∧ Below w.heap.size w w' := by
  cases h : inR s 1 99
  all_goals
    go_enter Try.func100, Try.ntmps100
    go_wp2_with (first
      | (go_at_call 83; refine (impl_inRange _ _ _ _).mono ?_; rintro e w' ⟨rfl, rfl⟩)
      | (go_at_call 55; refine (impl_isAuthor _ _).mono ?_; rintro e w' ⟨rfl, rfl⟩))
    go_ret
    exact ⟨ret_bool (by simp [vst, h]), (Below.refl _ _).alloc (Nat.le_refl _) _⟩

theorem toStamp (s a : Int) (w : World) :
    Calls Try.prog 69 #[.agg #[.int .i64 s, .int .i64 a]] w fun e w' => e = .returned (.agg #[.int .i64 s, .int .i64 a]) ∧ Below w.heap.size w w' := by
  go_enter Try.func69, Try.ntmps69
  go_wp2
  refine bodyPost_ret (v := .agg #[.int .i64 s, .int .i64 a]) (by simp [results, Try.results69, go_sem]) rfl ⟨rfl, ?_⟩
  exact (((Below.refl _ _).alloc (Nat.le_refl _) _).alloc (by simp) _).alloc (by simp; omega) _

end Go.Proofs.Ytdbnflgckcjlcaa.St

/-
  Contracts of the comparing of stamps in both packages, and the walk of the law FnExactStampLess. For every argument; no condition.
-/
namespace Go.Proofs.Ytdbnflgckcjlcaa.StB
open Go.RowKit Go.Proofs.Ytdbnflgckcjlcaa.Base Go.Proofs.Ytdbnflgckcjlcaa.St

/-- Stamp (s, a) sorts before (t, b). -/
def slt (s a t b : Int) : Bool := decide (s < t) || (decide (s = t) && decide (a < b))
/-- -1, 0 or 1. -/
def cmpI (x y : Int) : Int := if x < y then -1 else if y < x then 1 else 0
def scmp (s a t b : Int) : Int := if s = t then cmpI a b else cmpI s t
theorem scmp_neg (s a t b : Int) : decide (scmp s a t b < 0) = slt s a t b := by
  unfold scmp slt cmpI
  by_cases h : s = t
  · subst h
    by_cases h1 : a < b
    · simp [h1]
    · by_cases h2 : b < a <;> simp [h1, h2]
  · by_cases h1 : s < t
    · simp [h, h1]
    · by_cases h2 : t < s <;> simp [h, h1, h2]

theorem cmpCompare (x y : Int) (w : World) :
    Calls Try.prog 103 #[.int .i64 x, .int .i64 y] w fun e w' => e = .returned (.int .i64 (cmpI x y)) ∧ w = w' := by
  by_cases h1 : x < y
  · go_enter Try.func103, Try.ntmps103
    go_wp2
    go_ret
    exact ⟨ret_int (by simp [cmpI, h1]), rfl⟩
  · by_cases h2 : y < x
    · go_enter Try.func103, Try.ntmps103
      go_wp2
      go_ret
      exact ⟨ret_int (by simp [cmpI]; omega), rfl⟩
    · go_enter Try.func103, Try.ntmps103
      go_wp2
      go_ret
      exact ⟨ret_int (by simp [cmpI]; omega), rfl⟩

theorem stampCompare (s a t b : Int) (w : World) :
    Calls Try.prog 102 #[.agg #[.int .i64 s, .int .i64 a], .agg #[.int .i64 t, .int .i64 b]] w fun e w' => e = .returned (.int .i64 (scmp s a t b)) ∧ Below w.heap.size w w' := by
  by_cases h : s = t
  · subst h
    go_enter Try.func102, Try.ntmps102
    go_wp2_with (go_at_call 103; refine (cmpCompare _ _ _).mono ?_; rintro e w' ⟨rfl, rfl⟩)
    go_ret
    exact ⟨ret_int (by simp [scmp]), ((Below.refl _ _).alloc (Nat.le_refl _) _).alloc (by simp) _⟩
  · go_enter Try.func102, Try.ntmps102
    go_wp2_with (go_at_call 103; refine (cmpCompare _ _ _).mono ?_; rintro e w' ⟨rfl, rfl⟩)
    go_ret
    exact ⟨ret_int (by simp [scmp, h]), ((Below.refl _ _).alloc (Nat.le_refl _) _).alloc (by simp) _⟩

theorem impl_StampLess (s a t b : Int) (w : World) :
    Calls Try.prog 73 #[.agg #[.int .i64 s, .int .i64 a], .agg #[.int .i64 t, .int .i64 b]] w fun e w' => e = .returned (.bool (slt s a t b)) ∧ Below w.heap.size w w' := by
  go_enter Try.func73, Try.ntmps73
  go_wp2_with (go_at_call 102; refine (stampCompare _ _ _ _ _).mono ?_; rintro e w1 ⟨rfl, hb1⟩)
  go_ret
  exact ⟨ret_bool (scmp_neg s a t b), (((Below.refl _ _).alloc (Nat.le_refl _) _).alloc (by simp) _).trans (hb1.mono (by simp; omega))⟩

theorem spec_stampLess (s a t b : Int) (w : World) :
    Calls Try.prog 68 #[.agg #[.int .i64 s, .int .i64 a], .agg #[.int .i64 t, .int .i64 b]] w fun e w' => e = .returned (.bool (slt s a t b)) ∧ Below w.heap.size w w' := by
  by_cases h : s = t
  · subst h
    go_enter Try.func68, Try.ntmps68
    go_wp2
    go_ret
    exact ⟨ret_bool (by simp [slt]), ((Below.refl _ _).alloc (Nat.le_refl _) _).alloc (by simp) _⟩
  · by_cases h1 : s < t
    · go_enter Try.func68, Try.ntmps68
      go_wp2
      go_ret
      exact ⟨ret_bool (by simp [slt, h1]), ((Below.refl _ _).alloc (Nat.le_refl _) _).alloc (by simp) _⟩
    · go_enter Try.func68, Try.ntmps68
      go_wp2
      go_ret
      exact ⟨ret_bool (by simp [slt, h]; omega), ((Below.refl _ _).alloc (Nat.le_refl _) _).alloc (by simp) _⟩

end Go.Proofs.Ytdbnflgckcjlcaa.StB

/-
  Contracts of the small functions on references and words of an operation: isZero, validRef, validWord of the model; isZero, isRef, isOptionalRef, isWord, isBlockKind of the program. For every argument; no condition.
-/
namespace Go.Proofs.Ytdbnflgckcjlcaa.OpA
open Go.RowKit Go.Proofs.Ytdbnflgckcjlcaa.Base Go.Proofs.Ytdbnflgckcjlcaa.St Go.Proofs.Ytdbnflgckcjlcaa.StB

/-- A block of the call's own at n stands in the next world; so does what lay below it. -/
theorem nextW {n : Nat} {w W w1 : World} (hB : Below n w W) (hz : n < W.heap.size) (hb : Below W.heap.size W w1) :
    Below n w w1 ∧ n < w1.heap.size ∧ (∀ o, w1.cell? ⟨n, o, none⟩ = W.cell? ⟨n, o, none⟩) :=
  ⟨hB.trans (hb.mono (by omega)), by have := hb.size; omega, fun o => hb.cell (p := ⟨n, o, none⟩) hz⟩
theorem nextW2 {n : Nat} {w W w1 : World} (hB : Below n w W) (hz : n + 1 < W.heap.size) (hb : Below W.heap.size W w1) :
    Below n w w1 ∧ n + 1 < w1.heap.size ∧ (∀ o, w1.cell? ⟨n, o, none⟩ = W.cell? ⟨n, o, none⟩) ∧ (∀ o, w1.cell? ⟨n + 1, o, none⟩ = W.cell? ⟨n + 1, o, none⟩) :=
  ⟨hB.trans (hb.mono (by omega)), by have := hb.size; omega, fun o => hb.cell (p := ⟨n, o, none⟩) (by show n < _; omega), fun o => hb.cell (p := ⟨n + 1, o, none⟩) (by show n + 1 < _; omega)⟩

/-- The zero stamp. -/
def zst (s a : Int) : Bool := decide (s = 0) && decide (a = 0)
/-- A valid reference of an operation with the given ID; none: the zero stamp is let. -/
def vref (ids ida s a : Int) (none : Bool) : Bool := if zst s a then none else (vst s a && slt s a ids ida)

theorem spec_isZero (s a : Int) (w : World) :
    Calls Try.prog 88 #[.agg #[.int .i64 s, .int .i64 a]] w fun e w' => e = .returned (.bool (zst s a)) ∧ Below w.heap.size w w' := by
  by_cases h : s = 0
  · subst h
    by_cases h' : a = 0
    · subst h'
      go_enter Try.func88, Try.ntmps88
      go_wp2
      go_ret
      exact ⟨ret_bool (by simp [zst]), (Below.refl _ _).alloc (Nat.le_refl _) _⟩
    · have hne : (a == 0) = false := by simp [h']
      go_enter Try.func88, Try.ntmps88
      go_wp2
      go_ret
      exact ⟨ret_bool (by simp [zst, h']), (Below.refl _ _).alloc (Nat.le_refl _) _⟩
  · have hne : (s == 0) = false := by simp [h]
    go_enter Try.func88, Try.ntmps88
    go_wp2
    go_ret
    exact ⟨ret_bool (by simp [zst, h]), (Below.refl _ _).alloc (Nat.le_refl _) _⟩

theorem impl_isZero (s a : Int) (w : World) :
    Calls Try.prog 121 #[.agg #[.int .i64 s, .int .i64 a]] w fun e w' => e = .returned (.bool (zst s a)) ∧ Below w.heap.size w w' := by
  by_cases h : s = 0
  · subst h
    by_cases h' : a = 0
    · subst h'
      go_enter Try.func121, Try.ntmps121
      go_wp2
      go_ret
      exact ⟨ret_bool (by simp [zst]), (Below.refl _ _).alloc (Nat.le_refl _) _⟩
    · have hne : (a == 0) = false := by simp [h']
      go_enter Try.func121, Try.ntmps121
      go_wp2
      go_ret
      exact ⟨ret_bool (by simp [zst, h']), (Below.refl _ _).alloc (Nat.le_refl _) _⟩
  · have hne : (s == 0) = false := by simp [h]
    go_enter Try.func121, Try.ntmps121
    go_wp2
    go_ret
    exact ⟨ret_bool (by simp [zst, h]), (Below.refl _ _).alloc (Nat.le_refl _) _⟩

theorem impl_isRef (s a t b : Int) (w : World) :
    Calls Try.prog 128 #[.agg #[.int .i64 s, .int .i64 a], .agg #[.int .i64 t, .int .i64 b]] w fun e w' => e = .returned (.bool (vst s a && slt s a t b)) ∧ Below w.heap.size w w' := by
  have B0 : Below w.heap.size w ((w.alloc (.cells #[.int .i64 s, .int .i64 a] 61)).alloc (.cells #[.int .i64 t, .int .i64 b] 61)) := ((Below.refl _ _).alloc (Nat.le_refl _) _).alloc (by simp) _
  have hz0 : w.heap.size + 1 < ((w.alloc (.cells #[.int .i64 s, .int .i64 a] 61)).alloc (.cells #[.int .i64 t, .int .i64 b] 61)).heap.size := by simp
  cases h : vst s a
  all_goals
    go_enter Try.func128, Try.ntmps128
    go_wp2_with (first
      | (go_at_call 100; refine (impl_ValidStamp _ _ _).mono ?_; rintro e w1 ⟨rfl, hb1⟩; obtain ⟨B1, hz1, hc1, hd1⟩ := nextW2 B0 hz0 hb1)
      | (go_at_call 73; refine (impl_StampLess _ _ _ _ _).mono ?_; rintro e w2 ⟨rfl, hb2⟩; obtain ⟨B2, hz2, hc2, hd2⟩ := nextW2 B1 hz1 hb2))
    go_ret
    first | exact ⟨ret_bool (by simp), B1⟩ | exact ⟨ret_bool (by simp), B2⟩

theorem impl_isOptionalRef (s a t b : Int) (w : World) :
    Calls Try.prog 127 #[.agg #[.int .i64 s, .int .i64 a], .agg #[.int .i64 t, .int .i64 b]] w fun e w' => e = .returned (.bool (vref t b s a true)) ∧ Below w.heap.size w w' := by
  have B0 : Below w.heap.size w ((w.alloc (.cells #[.int .i64 s, .int .i64 a] 61)).alloc (.cells #[.int .i64 t, .int .i64 b] 61)) := ((Below.refl _ _).alloc (Nat.le_refl _) _).alloc (by simp) _
  have hz0 : w.heap.size + 1 < ((w.alloc (.cells #[.int .i64 s, .int .i64 a] 61)).alloc (.cells #[.int .i64 t, .int .i64 b] 61)).heap.size := by simp
  cases h : zst s a
  all_goals
    go_enter Try.func127, Try.ntmps127
    go_wp2_with (first
      | (go_at_call 121; refine (impl_isZero _ _ _).mono ?_; rintro e w1 ⟨rfl, hb1⟩; obtain ⟨B1, hz1, hc1, hd1⟩ := nextW2 B0 hz0 hb1)
      | (go_at_call 128; refine (impl_isRef _ _ _ _ _).mono ?_; rintro e w2 ⟨rfl, hb2⟩; obtain ⟨B2, hz2, hc2, hd2⟩ := nextW2 B1 hz1 hb2))
    go_ret
    first | exact ⟨ret_bool (by simp [vref, h]), B1⟩ | exact ⟨ret_bool (by simp [vref, h]), B2⟩

theorem impl_isBlockKind (n : Int) (w : World) :
    Calls Try.prog 141 #[.int .i64 n] w fun e w' => e = .returned (.bool (inR n 1 4)) ∧ w = w' := by
  go_enter Try.func141, Try.ntmps141
  go_wp2_with (go_at_call 83; refine (impl_inRange _ _ _ _).mono ?_; rintro e w' ⟨rfl, rfl⟩)
  go_ret
  exact ⟨rfl, rfl⟩

end Go.Proofs.Ytdbnflgckcjlcaa.OpA

/-
  Contracts of validWord of the model and isWord of the program. For every string; no condition.
-/
namespace Go.Proofs.Ytdbnflgckcjlcaa.OpW
open Go.RowKit Go.Proofs.Ytdbnflgckcjlcaa.Base Go.Proofs.Ytdbnflgckcjlcaa.St Go.Proofs.Ytdbnflgckcjlcaa.OpA

def lowB (c : UInt8) : Bool := decide (97 ≤ (c.toNat : Int)) && decide ((c.toNat : Int) ≤ 122)
/-- A word: 1 to 8 letters from a to z. -/
def wordB (l : List UInt8) : Bool := l.all lowB && inR (l.length : Int) 1 8
theorem take_all (s : ByteArray) (k : Nat) (h : k < s.size) : (s.data.toList.take (k + 1)).all lowB = ((s.data.toList.take k).all lowB && lowB s[k]) := by
  rw [List.take_succ_eq_append_getElem (by simpa using h), List.all_append]
  simp
  rfl
theorem word_bad (s : ByteArray) (k : Nat) (h : k < s.size) (hb : lowB s[k] = false) : wordB s.data.toList = false := by
  have : s.data.toList.all lowB = false := by
    rw [List.all_eq_false]
    exact ⟨s[k], by rw [Array.mem_toList_iff]; exact Array.getElem_mem (xs := s.data) (by simpa using h), by simpa using hb⟩
  simp [wordB, this]

theorem spec_validWord (s : ByteArray) (w : World) (hs : s.size ≤ maxLen) :
    Calls Try.prog 89 #[.string s] w fun e w' => e = .returned (.bool (wordB s.data.toList)) ∧ w = w' := by
  unfold maxLen at hs
  go_enter Try.func89, Try.ntmps89
  go_wp2
  go_loop [3] (fun i => ∃ k : Nat, k ≤ s.size ∧ i = .int .i64 k ∧ Hid ((s.data.toList.take k).all lowB = true)) (fun i => s.size - (intOf i).toNat)
  case atStart => exact ⟨0, Nat.zero_le _, rfl, by simp [Hid]⟩
  case round =>
    obtain ⟨k, hk, rfl, hall⟩ := hrel
    by_cases hlt : k < s.size
    · have HS := Lib.hid (take_all s k hlt)
      have HB := Lib.hid (fun h => word_bad s k hlt h)
      by_cases g1 : (97 : Int) ≤ (s[k].toNat : Int)
      · by_cases g2 : (s[k].toNat : Int) ≤ 122
        · go_wp2
          go_round
          case rel =>
            refine ⟨k + 1, by omega, by go_num, ?_⟩
            have h1 := HS.out
            have h2 : lowB s[k] = true := by unfold lowB; rw [decide_eq_true g1, decide_eq_true g2]; rfl
            rw [h1, hall.out, h2]
            rfl
          case measure => simp [intOf]; omega
        · go_wp2
          go_ret
          exact ⟨ret_bool (HB.out (by unfold lowB; rw [decide_eq_false (by omega : ¬ (s[k].toNat : Int) ≤ 122)]; simp)).symm, rfl⟩
      · go_wp2
        go_ret
        exact ⟨ret_bool (HB.out (by unfold lowB; rw [decide_eq_false (by omega : ¬ (97 : Int) ≤ (s[k].toNat : Int))]; simp)).symm, rfl⟩
    · obtain rfl : k = s.size := by omega
      go_wp2_with (go_at_call 81; refine (spec_inRange _ _ _ _).mono ?_; rintro e w' ⟨rfl, rfl⟩)
      go_ret
      have h := hall.out
      rw [List.take_of_length_le (by simp)] at h
      exact ⟨ret_bool (by simp [wordB, h]), rfl⟩

theorem impl_isWord (s : ByteArray) (w : World) (hs : s.size ≤ maxLen) :
    Calls Try.prog 158 #[.string s] w fun e w' => e = .returned (.bool (wordB s.data.toList)) ∧ w = w' := by
  unfold maxLen at hs
  go_enter Try.func158, Try.ntmps158
  go_wp2
  go_loop [3] (fun i => ∃ k : Nat, k ≤ s.size ∧ i = .int .i64 k ∧ Hid ((s.data.toList.take k).all lowB = true)) (fun i => s.size - (intOf i).toNat)
  case atStart => exact ⟨0, Nat.zero_le _, rfl, by simp [Hid]⟩
  case round =>
    obtain ⟨k, hk, rfl, hall⟩ := hrel
    by_cases hlt : k < s.size
    · have HS := Lib.hid (take_all s k hlt)
      have HB := Lib.hid (fun h => word_bad s k hlt h)
      by_cases g1 : (97 : Int) ≤ (s[k].toNat : Int)
      · by_cases g2 : (s[k].toNat : Int) ≤ 122
        · go_wp2
          go_round
          case rel =>
            refine ⟨k + 1, by omega, by go_num, ?_⟩
            have h1 := HS.out
            have h2 : lowB s[k] = true := by unfold lowB; rw [decide_eq_true g1, decide_eq_true g2]; rfl
            rw [h1, hall.out, h2]
            rfl
          case measure => simp [intOf]; omega
        · go_wp2
          go_ret
          exact ⟨ret_bool (HB.out (by unfold lowB; rw [decide_eq_false (by omega : ¬ (s[k].toNat : Int) ≤ 122)]; simp)).symm, rfl⟩
      · go_wp2
        go_ret
        exact ⟨ret_bool (HB.out (by unfold lowB; rw [decide_eq_false (by omega : ¬ (97 : Int) ≤ (s[k].toNat : Int))]; simp)).symm, rfl⟩
    · obtain rfl : k = s.size := by omega
      go_wp2_with (go_at_call 83; refine (impl_inRange _ _ _ _).mono ?_; rintro e w' ⟨rfl, rfl⟩)
      go_ret
      have h := hall.out
      rw [List.take_of_length_le (by simp)] at h
      exact ⟨ret_bool (by simp [wordB, h]), rfl⟩

end Go.Proofs.Ytdbnflgckcjlcaa.OpW

/-
  An operation as a record of its fields; the model's validRef; what makes an operation valid, kind by kind. For every argument; no condition.
-/
namespace Go.Proofs.Ytdbnflgckcjlcaa.OpB
open Go.RowKit Go.Proofs.Ytdbnflgckcjlcaa.Base Go.Proofs.Ytdbnflgckcjlcaa.St Go.Proofs.Ytdbnflgckcjlcaa.StB Go.Proofs.Ytdbnflgckcjlcaa.OpA Go.Proofs.Ytdbnflgckcjlcaa.OpW

/-- The fields of an operation: ID (i, j), Kind k, Target (ts, ta), After (fs, fa), NewParent (ns, na), Value v, Enable, Text. -/
structure OpV where
  i : Int
  j : Int
  k : Int
  ts : Int
  ta : Int
  fs : Int
  fa : Int
  ns : Int
  na : Int
  v : Int
  en : Bool
  tx : ByteArray

def bareB (s : ByteArray) : Bool := s.toList.isEmpty

/-- What a valid operation's fields are, kind by kind, in the order in which the model asks. -/
def opKindOk (o : OpV) : Bool :=
  if o.k = 1 then vref o.i o.j o.ts o.ta true && (vref o.i o.j o.fs o.fa true && (zst o.ns o.na && (inR o.v 32 126 && (!o.en && bareB o.tx))))
  else if o.k = 2 then vref o.i o.j o.ts o.ta false && (zst o.fs o.fa && (zst o.ns o.na && (o.v == 0 && (!o.en && bareB o.tx))))
  else if o.k = 3 then vref o.i o.j o.ts o.ta false && (vref o.i o.j o.fs o.fa false && (zst o.ns o.na && (inR o.v 1 3 && bareB o.tx)))
  else if o.k = 4 then vref o.i o.j o.ts o.ta true && (vref o.i o.j o.fs o.fa true && (zst o.ns o.na && (inR o.v 1 4 && (!o.en && bareB o.tx))))
  else if o.k = 5 then vref o.i o.j o.ts o.ta false && (vref o.i o.j o.fs o.fa true && (vref o.i o.j o.ns o.na true && (o.v == 0 && (!o.en && bareB o.tx))))
  else if o.k = 6 then vref o.i o.j o.ts o.ta false && (zst o.fs o.fa && (zst o.ns o.na && (inR o.v 1 4 && (!o.en && bareB o.tx))))
  else if o.k = 7 then vref o.i o.j o.ts o.ta false && (zst o.fs o.fa && (zst o.ns o.na && (o.v == 0 && (!o.en && bareB o.tx))))
  else if o.k = 8 then vref o.i o.j o.ts o.ta false && (vref o.i o.j o.fs o.fa false && (zst o.ns o.na && (o.v == 0 && (!o.en && wordB o.tx.data.toList))))
  else if o.k = 9 then vref o.i o.j o.ts o.ta false && (zst o.fs o.fa && (zst o.ns o.na && (o.v == 0 && (!o.en && wordB o.tx.data.toList))))
  else if o.k = 10 then vref o.i o.j o.ts o.ta false && (zst o.fs o.fa && (zst o.ns o.na && (o.v == 0 && bareB o.tx)))
  else false
def vop (o : OpV) : Bool := vst o.i o.j && opKindOk o

theorem spec_validRef (o : OpV) (s a : Int) (none' : Bool) (w : World) :
    Calls Try.prog 87 #[.agg #[.int .i64 o.i, .int .i64 o.j, .int .i64 o.k, .int .i64 o.ts, .int .i64 o.ta, .int .i64 o.fs, .int .i64 o.fa, .int .i64 o.ns, .int .i64 o.na, .int .i64 o.v, .bool o.en, .string o.tx], .agg #[.int .i64 s, .int .i64 a], .bool none'] w fun e w' => e = .returned (.bool (vref o.i o.j s a none')) ∧ Below w.heap.size w w' := by
  have B0 : Below w.heap.size w ((w.alloc (.cells #[.int .i64 o.i, .int .i64 o.j, .int .i64 o.k, .int .i64 o.ts, .int .i64 o.ta, .int .i64 o.fs, .int .i64 o.fa, .int .i64 o.ns, .int .i64 o.na, .int .i64 o.v, .bool o.en, .string o.tx] 63)).alloc (.cells #[.int .i64 s, .int .i64 a] 61)) := ((Below.refl _ _).alloc (Nat.le_refl _) _).alloc (by simp) _
  have hz0 : w.heap.size + 1 < ((w.alloc (.cells #[.int .i64 o.i, .int .i64 o.j, .int .i64 o.k, .int .i64 o.ts, .int .i64 o.ta, .int .i64 o.fs, .int .i64 o.fa, .int .i64 o.ns, .int .i64 o.na, .int .i64 o.v, .bool o.en, .string o.tx] 63)).alloc (.cells #[.int .i64 s, .int .i64 a] 61)).heap.size := by simp
  by_cases h0 : s = 0 ∧ a = 0
  · obtain ⟨rfl, rfl⟩ := h0
    go_enter Try.func87, Try.ntmps87
    go_wp2
    go_ret
    exact ⟨ret_bool (by simp [vref, zst]), B0⟩
  · have hz : zst s a = false := by
      unfold zst
      by_cases h1 : s = 0
      · have : ¬ a = 0 := fun h => h0 ⟨h1, h⟩
        simp [this]
      · simp [h1]
    have hq : ((s == 0) && (a == 0)) = false := by
      rw [← hz]
      unfold zst
      rfl
    have hv : vref o.i o.j s a none' = (vst s a && slt s a o.i o.j) := by simp [vref, hz]
    rw [hv]
    by_cases h1 : s = 0
    · have h2 : (a == 0) = false := by simp; exact fun h => h0 ⟨h1, h⟩
      subst h1
      clear hq hz hv h0
      have hst : vst 0 a = false := by simp [vst, inR]
      go_enter Try.func87, Try.ntmps87
      go_wp2_with (first
        | (go_at_call 86; refine (spec_validStamp _ _ _).mono ?_; rintro e w1 ⟨rfl, hb1⟩; obtain ⟨B1, hz1, hc1, hd1⟩ := nextW2 B0 hz0 hb1)
        | (go_at_call 68; refine (spec_stampLess _ _ _ _ _).mono ?_; rintro e w2 ⟨rfl, hb2⟩; obtain ⟨B2, hz2, hc2, hd2⟩ := nextW2 B1 hz1 hb2))
      go_ret
      exact ⟨ret_bool (by simp [hst]), B1⟩
    · have h2 : (s == 0) = false := by simp [h1]
      clear hq hz hv h0 h1
      cases hst : vst s a
      all_goals
        go_enter Try.func87, Try.ntmps87
        go_wp2_with (first
          | (go_at_call 86; refine (spec_validStamp _ _ _).mono ?_; rintro e w1 ⟨rfl, hb1⟩; obtain ⟨B1, hz1, hc1, hd1⟩ := nextW2 B0 hz0 hb1)
          | (go_at_call 68; refine (spec_stampLess _ _ _ _ _).mono ?_; rintro e w2 ⟨rfl, hb2⟩; obtain ⟨B2, hz2, hc2, hd2⟩ := nextW2 B1 hz1 hb2))
        go_ret
        first | exact ⟨ret_bool (by simp), B1⟩ | exact ⟨ret_bool (by simp), B2⟩

end Go.Proofs.Ytdbnflgckcjlcaa.OpB

/-
  What the exact laws do with an operation: toOp copies it, szOp counts its text. For every operation; no condition.
-/
namespace Go.Proofs.Ytdbnflgckcjlcaa.OpT
open Go.RowKit Go.Proofs.Ytdbnflgckcjlcaa.Base Go.Proofs.Ytdbnflgckcjlcaa.St Go.Proofs.Ytdbnflgckcjlcaa.StB Go.Proofs.Ytdbnflgckcjlcaa.OpA Go.Proofs.Ytdbnflgckcjlcaa.OpW Go.Proofs.Ytdbnflgckcjlcaa.OpB

/-- What szOp leaves of the room. -/
def szV (o : OpV) (left : Int) : Int := if left - o.tx.size < 0 then -1 else left - o.tx.size
theorem szOp (o : OpV) (left : Int) (w : World) (hs : o.tx.size ≤ maxLen) (hl : 0 ≤ left ∧ left ≤ 1048576) :
    Calls Try.prog 33 #[.agg #[.int .i64 o.i, .int .i64 o.j, .int .i64 o.k, .int .i64 o.ts, .int .i64 o.ta, .int .i64 o.fs, .int .i64 o.fa, .int .i64 o.ns, .int .i64 o.na, .int .i64 o.v, .bool o.en, .string o.tx], .int .i64 left] w fun e w' => e = .returned (.int .i64 (szV o left)) ∧ Below w.heap.size w w' := by
  obtain ⟨hl0, hl1⟩ := hl
  unfold maxLen at hs
  by_cases h : left - o.tx.size < 0
  · have e : szV o left = -1 := by unfold szV; rw [if_pos h]
    rw [e]
    clear e
    go_enter Try.func33, Try.ntmps33
    go_wp2
    go_ret
    exact ⟨rfl, (Below.refl _ _).alloc (Nat.le_refl _) _⟩
  · have e : szV o left = left - o.tx.size := by unfold szV; rw [if_neg h]
    rw [e]
    clear e
    go_enter Try.func33, Try.ntmps33
    go_wp2
    go_ret
    exact ⟨rfl, (Below.refl _ _).alloc (Nat.le_refl _) _⟩

set_option maxHeartbeats 8000000 in
theorem toOp (o : OpV) (w : World) :
    Calls Try.prog 35 #[.agg #[.int .i64 o.i, .int .i64 o.j, .int .i64 o.k, .int .i64 o.ts, .int .i64 o.ta, .int .i64 o.fs, .int .i64 o.fa, .int .i64 o.ns, .int .i64 o.na, .int .i64 o.v, .bool o.en, .string o.tx]] w fun e w' => e = .returned (.agg #[.int .i64 o.i, .int .i64 o.j, .int .i64 o.k, .int .i64 o.ts, .int .i64 o.ta, .int .i64 o.fs, .int .i64 o.fa, .int .i64 o.ns, .int .i64 o.na, .int .i64 o.v, .bool o.en, .string o.tx]) ∧ Below w.heap.size w w' := by
  go_enter Try.func35, Try.ntmps35
  go_wp2
  go_returns
  refine ⟨rfl, ?_⟩
  go_grown

end Go.Proofs.Ytdbnflgckcjlcaa.OpT

/-
  How an operation that comes in as an argument, by value, reads: its twelve cells. For every argument.
-/
namespace Go.Proofs.Ytdbnflgckcjlcaa.Open
open Go.ChangeShapes Go.WideShapes Go.ChangeAt Go.RowKit Go.Joins Go.Proofs.Ytdbnflgckcjlcaa.Base Go.Proofs.Ytdbnflgckcjlcaa.OpB
set_option maxRecDepth 100000

theorem cells_stamp : Try.prog.cellsOf 67 = 2 := by kernel_rfl
theorem cells_int : Try.prog.cellsOf 3 = 1 := by kernel_rfl
theorem cells_bool : Try.prog.cellsOf 4 = 1 := by kernel_rfl
theorem cells_string : Try.prog.cellsOf 9 = 1 := by kernel_rfl
theorem cells_op : Try.prog.cellsOf 69 = 12 := by kernel_rfl

section
variable {H : Type} {enc : TypeId × Value → H} {w : World} {base : Nat} {spare : Nat → Bool} {held : Bool}

theorem stamp_cells {fuel : Nat} {c0 c1 : Value} {x : DataW H × List MemPlace} (h : DataW.trod enc Try.prog w base spare held fuel 67 [c0, c1] = some x) :
    ∃ s a : Int, c0 = .int .i64 s ∧ c1 = .int .i64 a := by
  obtain ⟨xs, n, _, _, _, hl, hg⟩ := DataW.trod_struct Try.underlying67 h
  have hl2 : xs.length = 2 := hl
  match xs, hl2 with
  | [y0, y1], _ =>
    have g0 := hg 0 _ rfl
    have g1 := hg 1 _ rfl
    simp [cells_int] at g0 g1
    obtain ⟨s, e0, _, _⟩ := DataW.trod_int Try.underlying3 g0
    obtain ⟨a, e1, _, _⟩ := DataW.trod_int Try.underlying3 g1
    exact ⟨s, a, by simpa using e0, by simpa using e1⟩

theorem op_cells {fuel : Nat} {c : List Value} {x : DataW H × List MemPlace} (hc : c.length = 12) (h : DataW.trod enc Try.prog w base spare held fuel 69 c = some x) :
    ∃ o : OpV, c = [.int .i64 o.i, .int .i64 o.j, .int .i64 o.k, .int .i64 o.ts, .int .i64 o.ta, .int .i64 o.fs, .int .i64 o.fa, .int .i64 o.ns, .int .i64 o.na, .int .i64 o.v, .bool o.en, .string o.tx] ∧ o.tx.size ≤ maxLen := by
  obtain ⟨xs, n, _, _, _, hl, hg⟩ := DataW.trod_struct Try.underlying69 h
  have hl2 : xs.length = 8 := hl
  match c, hc with
  | [c0, c1, c2, c3, c4, c5, c6, c7, c8, c9, c10, c11], _ =>
    match xs, hl2 with
    | [y0, y1, y2, y3, y4, y5, y6, y7], _ =>
      have g0 := hg 0 _ rfl
      have g1 := hg 1 _ rfl
      have g2 := hg 2 _ rfl
      have g3 := hg 3 _ rfl
      have g4 := hg 4 _ rfl
      have g5 := hg 5 _ rfl
      have g6 := hg 6 _ rfl
      have g7 := hg 7 _ rfl
      simp [cells_int, cells_stamp, cells_bool, cells_string] at g0 g1 g2 g3 g4 g5 g6 g7
      obtain ⟨i, j, rfl, rfl⟩ := stamp_cells g0
      obtain ⟨k, e1, _, _⟩ := DataW.trod_int Try.underlying3 g1
      obtain ⟨ts, ta, rfl, rfl⟩ := stamp_cells g2
      obtain ⟨fs, fa, rfl, rfl⟩ := stamp_cells g3
      obtain ⟨ns, na, rfl, rfl⟩ := stamp_cells g4
      obtain ⟨v, e5, _, _⟩ := DataW.trod_int Try.underlying3 g5
      obtain ⟨en, e6, _⟩ := DataW.trod_bool Try.underlying4 g6
      obtain ⟨tx, e7, _, ht⟩ := DataW.trod_string Try.underlying9 g7
      obtain rfl : c2 = .int .i64 k := by simpa using e1
      obtain rfl : c9 = .int .i64 v := by simpa using e5
      obtain rfl : c10 = .bool en := by simpa using e6
      obtain rfl : c11 = .string tx := by simpa using e7
      exact ⟨⟨i, j, k, ts, ta, fs, fa, ns, na, v, en, tx⟩, rfl, ht⟩

theorem open_op {r : Reach} {b0 : Nat} {v : Value} {d : DataW H} {p : List MemPlace} (hv : Value.okWide Try.prog w r b0 69 v) (h : DataW.Trod enc Try.prog w base spare held 69 v d p) :
    ∃ o : OpV, v = .agg #[.int .i64 o.i, .int .i64 o.j, .int .i64 o.k, .int .i64 o.ts, .int .i64 o.ta, .int .i64 o.fs, .int .i64 o.fa, .int .i64 o.ns, .int .i64 o.na, .int .i64 o.v, .bool o.en, .string o.tx] ∧ o.tx.size ≤ maxLen := by
  obtain ⟨cs, rfl, hsz⟩ := okWide_struct Try.underlying69 hv
  obtain ⟨fuel, hf⟩ := h
  obtain ⟨o, e, ht⟩ := op_cells (c := cs.toList) (by rw [Array.length_toList, hsz, cells_op]) (by simpa [Value.cells] using hf)
  refine ⟨o, ?_, ht⟩
  congr 1
  apply Array.toList_inj.1
  exact e
end

end Go.Proofs.Ytdbnflgckcjlcaa.Open
