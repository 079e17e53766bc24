/-
  Contracts of validWord of the model and isWord of the program. For every string; no condition.
-/
import Derived.Test.YtkkeaimoplkliaaOpA
namespace Go.Proofs.Ytkkeaimoplkliaa.OpW
open Go.RowKit Go.Proofs.Ytkkeaimoplkliaa.Base Go.Proofs.Ytkkeaimoplkliaa.St Go.Proofs.Ytkkeaimoplkliaa.OpA

def lowB (c : UInt8) : Bool := decide (97 ≤ (c.toNat : Int)) && decide ((c.toNat : Int) ≤ 122)
/-- A word: 1 to 8 letters from a to z. -/
def wordB (l : List UInt8) : Bool := l.all lowB && inR (l.length : Int) 1 8
theorem take_all (s : ByteArray) (k : Nat) (h : k < s.size) : (s.data.toList.take (k + 1)).all lowB = ((s.data.toList.take k).all lowB && lowB s[k]) := by
  rw [List.take_succ_eq_append_getElem (by simpa using h), List.all_append]
  simp
  rfl
theorem word_bad (s : ByteArray) (k : Nat) (h : k < s.size) (hb : lowB s[k] = false) : wordB s.data.toList = false := by
  have : s.data.toList.all lowB = false := by
    rw [List.all_eq_false]
    exact ⟨s[k], by rw [Array.mem_toList_iff]; exact Array.getElem_mem (xs := s.data) (by simpa using h), by simpa using hb⟩
  simp [wordB, this]

theorem spec_validWord (s : ByteArray) (w : World) (hs : s.size ≤ maxLen) :
    Calls Try.prog 88 #[.string s] w fun e w' => e = .returned (.bool (wordB s.data.toList)) ∧ w = w' := by
  unfold maxLen at hs
  go_enter Try.func88, Try.ntmps88
  go_wp2
  go_loop [3] (fun i => ∃ k : Nat, k ≤ s.size ∧ i = .int .i64 k ∧ Hid ((s.data.toList.take k).all lowB = true)) (fun i => s.size - (intOf i).toNat)
  case atStart => exact ⟨0, Nat.zero_le _, rfl, by simp [Hid]⟩
  case round =>
    obtain ⟨k, hk, rfl, hall⟩ := hrel
    by_cases hlt : k < s.size
    · have HS := Lib.hid (take_all s k hlt)
      have HB := Lib.hid (fun h => word_bad s k hlt h)
      by_cases g1 : (97 : Int) ≤ (s[k].toNat : Int)
      · by_cases g2 : (s[k].toNat : Int) ≤ 122
        · go_wp2
          go_round
          case rel =>
            refine ⟨k + 1, by omega, by go_num, ?_⟩
            have h1 := HS.out
            have h2 : lowB s[k] = true := by unfold lowB; rw [decide_eq_true g1, decide_eq_true g2]; rfl
            rw [h1, hall.out, h2]
            rfl
          case measure => simp [intOf]; omega
        · go_wp2
          go_ret
          exact ⟨ret_bool (HB.out (by unfold lowB; rw [decide_eq_false (by omega : ¬ (s[k].toNat : Int) ≤ 122)]; simp)).symm, rfl⟩
      · go_wp2
        go_ret
        exact ⟨ret_bool (HB.out (by unfold lowB; rw [decide_eq_false (by omega : ¬ (97 : Int) ≤ (s[k].toNat : Int))]; simp)).symm, rfl⟩
    · obtain rfl : k = s.size := by omega
      go_wp2_with (go_at_call 87; refine (spec_inRange _ _ _ _).mono ?_; rintro e w' ⟨rfl, rfl⟩)
      go_ret
      have h := hall.out
      rw [List.take_of_length_le (by simp)] at h
      exact ⟨ret_bool (by simp [wordB, h]), rfl⟩

theorem impl_isWord (s : ByteArray) (w : World) (hs : s.size ≤ maxLen) :
    Calls Try.prog 160 #[.string s] w fun e w' => e = .returned (.bool (wordB s.data.toList)) ∧ w = w' := by
  unfold maxLen at hs
  go_enter Try.func160, Try.ntmps160
  go_wp2
  go_loop [3] (fun i => ∃ k : Nat, k ≤ s.size ∧ i = .int .i64 k ∧ Hid ((s.data.toList.take k).all lowB = true)) (fun i => s.size - (intOf i).toNat)
  case atStart => exact ⟨0, Nat.zero_le _, rfl, by simp [Hid]⟩
  case round =>
    obtain ⟨k, hk, rfl, hall⟩ := hrel
    by_cases hlt : k < s.size
    · have HS := Lib.hid (take_all s k hlt)
      have HB := Lib.hid (fun h => word_bad s k hlt h)
      by_cases g1 : (97 : Int) ≤ (s[k].toNat : Int)
      · by_cases g2 : (s[k].toNat : Int) ≤ 122
        · go_wp2
          go_round
          case rel =>
            refine ⟨k + 1, by omega, by go_num, ?_⟩
            have h1 := HS.out
            have h2 : lowB s[k] = true := by unfold lowB; rw [decide_eq_true g1, decide_eq_true g2]; rfl
            rw [h1, hall.out, h2]
            rfl
          case measure => simp [intOf]; omega
        · go_wp2
          go_ret
          exact ⟨ret_bool (HB.out (by unfold lowB; rw [decide_eq_false (by omega : ¬ (s[k].toNat : Int) ≤ 122)]; simp)).symm, rfl⟩
      · go_wp2
        go_ret
        exact ⟨ret_bool (HB.out (by unfold lowB; rw [decide_eq_false (by omega : ¬ (97 : Int) ≤ (s[k].toNat : Int))]; simp)).symm, rfl⟩
    · obtain rfl : k = s.size := by omega
      go_wp2_with (go_at_call 89; refine (impl_inRange _ _ _ _).mono ?_; rintro e w' ⟨rfl, rfl⟩)
      go_ret
      have h := hall.out
      rw [List.take_of_length_le (by simp)] at h
      exact ⟨ret_bool (by simp [wordB, h]), rfl⟩

end Go.Proofs.Ytkkeaimoplkliaa.OpW
