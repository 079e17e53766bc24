/-
  Contracts of crc32 and Checksum of the model. For texts of at most 2^20 bytes.
-/
import Derived.Test.YtdbnflgckcjlcaaCkA
namespace Go.Proofs.Ytdbnflgckcjlcaa.CkB
open Go.RowKit Go.Proofs.Ytdbnflgckcjlcaa.Base Go.Proofs.Ytdbnflgckcjlcaa.CkA
set_option linter.unusedVariables false

theorem start_xor (n : Nat) (h : n < 4294967296) (s : ByteArray) (k : Nat) (hk : k < s.size) : bits .xor .i64 (n : Int) ((s[k]'hk).toNat : Int) = ((n ^^^ chAt s k : Nat) : Int) := by
  rw [chAt_get]
  exact i64_xor_nat _ _ h (by have := chAt_lt s k; omega)
theorem odd_xor (n : Nat) (h : n < 4294967296) (e : n % 2 = 1) : bits .xor .i64 (((n / 2 : Nat)) : Int) 3988292384 = ((stepC n : Nat) : Int) := by
  rw [stepC, if_pos e]
  exact i64_xor_nat _ 3988292384 (by omega) (by omega)
theorem even_half (n : Nat) (e : ¬ n % 2 = 1) : n / 2 = stepC n := by rw [stepC, if_neg e]
theorem half_wrap (n : Nat) (h : n < 4294967296) : wrap64 ((n : Int) / 2) = ((n / 2 : Nat) : Int) := by
  have e : ((n / 2 : Nat) : Int) = (n : Int) / 2 := by omega
  rw [e]
  unfold wrap64
  omega
theorem end_xor (s : ByteArray) : bits .xor .i64 ((crcTo (chAt s) s.size : Nat) : Int) 4294967295 = ((crc s : Nat) : Int) :=
  i64_xor_nat _ 4294967295 (crcTo_lt (chAt_lt s) _) (by omega)
theorem byte_wrap (s : ByteArray) (k : Nat) (hk : k < s.size) : IntKind.i64.wrap ((s[k]'hk).toNat : Int) = ((s[k]'hk).toNat : Int) :=
  wrap_small _ (by omega) (by have := (s[k]'hk).toNat_lt; omega)

set_option maxRecDepth 100000 in
set_option maxHeartbeats 1000000 in
theorem spec_crc32 (s : ByteArray) (w : World) (hs : s.size ≤ 1048576) :
    Calls Try.prog 28 #[.string s] w fun e w' => e = .returned (.int .i64 (crc s)) ∧ w = w' := by
  go_enter Try.func28, Try.ntmps28
  go_wp2
  go_loop [3, 4] (fun c i => ∃ k n : Nat, k ≤ s.size ∧ i = .int .i64 k ∧ c = .int .i64 n ∧ Hid (n = crcTo (chAt s) k)) (fun _ i => s.size - (intOf i).toNat)
  case atStart => exact ⟨0, 4294967295, Nat.zero_le _, rfl, rfl, rfl⟩
  case round =>
    obtain ⟨k, n, hk, rfl, rfl, hn⟩ := hrel
    by_cases hlt : k < s.size
    · have hx := start_xor n (by rw [hn.out]; exact crcTo_lt (chAt_lt s) k) s k hlt
      have hbw := byte_wrap s k hlt
      obtain ⟨c0, hc0⟩ : ∃ c0, c0 = n ^^^ chAt s k := ⟨_, rfl⟩
      rw [← hc0] at hx
      have HC := Lib.hid hc0
      have HL := Lib.hid (by rw [hc0]; exact xor_lt (by rw [hn.out]; exact crcTo_lt (chAt_lt s) k) (by have := chAt_lt s k; omega) : c0 < 4294967296)
      clear hc0
      go_wp2
      go_loop [3, 5] (fun c j => ∃ m n' : Nat, m ≤ 8 ∧ j = .int .i64 m ∧ c = .int .i64 n' ∧ Hid (n' = stepN m c0)) (fun _ j => 8 - (intOf j).toNat)
      case atStart => exact ⟨0, c0, by omega, rfl, rfl, rfl⟩
      case round =>
        obtain ⟨m, n', hm, rfl, rfl, hn'⟩ := hrel
        by_cases hlt2 : m < 8
        · have HN := Lib.hid (by rw [hn'.out]; exact stepN_lt HL.out m : n' < 4294967296)
          by_cases e : n' % 2 = 1
          · have HO := Lib.hid (odd_xor n' HN.out e)
            have HQ := Lib.hid (half_wrap n' HN.out)
            go_wp2
            go_round
            case rel => exact ⟨m + 1, stepC n', by omega, by go_num, by rw [HQ.out, HO.out], (by rw [hn'.out]; rfl : stepC n' = stepN (m + 1) c0)⟩
            case measure => simp [intOf]; omega
          · have HQ := Lib.hid (half_wrap n' HN.out)
            have HO := Lib.hid (even_half n' e)
            go_wp2
            go_round
            case rel => exact ⟨m + 1, stepC n', by omega, by go_num, by rw [HQ.out, HO.out], (by rw [hn'.out]; rfl : stepC n' = stepN (m + 1) c0)⟩
            case measure => simp [intOf]; omega
        · obtain rfl : m = 8 := by omega
          go_wp2
          go_round
          case rel => exact ⟨k + 1, n', by omega, by go_num, rfl, (by rw [hn'.out, HC.out, hn.out]; rfl : n' = crcTo (chAt s) (k + 1))⟩
          case measure => simp [intOf]; omega
    · obtain rfl : k = s.size := by omega
      have hx := end_xor s
      rw [← hn.out] at hx
      go_wp2
      go_ret
      exact ⟨rfl, rfl⟩

theorem spec_Checksum (s : ByteArray) (w : World) (hs : s.size ≤ 1048576) :
    Calls Try.prog 8 #[.string s] w fun e w' => e = .returned (.int .i64 (crc s)) ∧ w = w' := by
  go_enter Try.func8, Try.ntmps8
  go_wp2_with (go_at_call 28; refine (spec_crc32 _ _ hs).mono ?_; rintro e w' ⟨rfl, rfl⟩)
  go_ret
  exact ⟨rfl, rfl⟩

end Go.Proofs.Ytdbnflgckcjlcaa.CkB
