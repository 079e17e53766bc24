/-
  Contract of Checksum of the program. For texts of at most 2^20 bytes.
-/
import Derived.Test.YtdbnflgckcjlcaaCkA
import Derived.Lib.ConvBytes
namespace Go.Proofs.Ytdbnflgckcjlcaa.CkC
open Go.RowKit Go.Proofs.Ytdbnflgckcjlcaa.Base Go.Proofs.Ytdbnflgckcjlcaa.CkA
set_option linter.unusedVariables false

theorem below_bytes (w : World) (e : TypeId) (s : ByteArray) : Below w.heap.size w (Lib.bytesWorld w e s) :=
  ⟨rfl, rfl, rfl, by rw [Lib.bytesWorld_size]; omega, fun k hk => Lib.bytesWorld_at_old w e s k hk⟩

theorem u_start (n : Nat) (h : n < 4294967296) (s : ByteArray) (k : Nat) : bits .xor .u32 (n : Int) ((chAt s k : Nat) : Int) = ((n ^^^ chAt s k : Nat) : Int) :=
  u32_xor_nat _ _ h (by have := chAt_lt s k; omega)
theorem u_and (n : Nat) (h : n < 4294967296) : bits .and .u32 (n : Int) 1 = ((n % 2 : Nat) : Int) := by
  have := u32_and_nat n 1 h (by omega)
  rw [Nat.and_one_is_mod] at this
  exact this
theorem u_odd (n : Nat) (h : n < 4294967296) (e : n % 2 = 1) : bits .xor .u32 ((n : Int) / 2) 3988292384 = ((stepC n : Nat) : Int) := by
  rw [stepC, if_pos e]
  have := u32_xor_nat (n / 2) 3988292384 (by omega) (by omega)
  have e2 : ((n / 2 : Nat) : Int) = (n : Int) / 2 := by omega
  rw [e2] at this
  exact this
theorem u_even (n : Nat) (h : n < 4294967296) (e : ¬ n % 2 = 1) : bits .xor .u32 ((n : Int) / 2) 0 = ((stepC n : Nat) : Int) := by
  rw [stepC, if_neg e]
  have := u32_xor_nat (n / 2) 0 (by omega) (by omega)
  have e2 : ((n / 2 : Nat) : Int) = (n : Int) / 2 := by omega
  rw [e2, Nat.xor_zero] at this
  exact this
theorem u_end (s : ByteArray) : bits .xor .u32 4294967295 ((crcTo (chAt s) s.size : Nat) : Int) = ((crc s : Nat) : Int) := by
  have := u32_xor_nat 4294967295 (crcTo (chAt s) s.size) (by omega) (crcTo_lt (chAt_lt s) _)
  rw [crc, Nat.xor_comm]
  exact this

set_option maxRecDepth 100000 in
set_option maxHeartbeats 1000000 in
theorem impl_Checksum (s : ByteArray) (w : World) (hs : s.size ≤ 1048576) :
    Calls Try.prog 9 #[.string s] w fun e w' => e = .returned (.int .i64 (crc s)) ∧ Below w.heap.size w w' := by
  go_enter Try.func9, Try.ntmps9
  go_wp2
  rw [Lib.run_convert_string_bytes w 9 24 5 s (u := .string) Try.underlying9 Try.underlying24 Try.underlying5]
  simp only [Result.andThen]
  rw [Oper.upon_value]
  obtain ⟨W1, hW1⟩ : ∃ W1, W1 = Lib.bytesWorld w 5 s := ⟨_, rfl⟩
  have hcell : ∀ k, k < s.size → W1.cell? ⟨w.heap.size, k, none⟩ = some (.int .u8 ((chAt s k : Nat) : Int)) := fun k hk => by
    rw [hW1]
    exact Lib.bytesWorld_cell w _ s k hk
  have HB := Lib.hid (by rw [hW1]; exact below_bytes w _ s : Below w.heap.size w W1)
  have HC := Lib.hid hcell
  rw [← hW1]
  clear hW1 hcell
  go_wp2
  go_loop [3, 9] (fun c i => ∃ k n : Nat, k ≤ s.size ∧ i = .int .i64 k ∧ c = .int .u32 n ∧ Hid (n = crcTo (chAt s) k)) (fun _ i => s.size - (intOf i).toNat)
  case atStart => exact ⟨0, 4294967295, Nat.zero_le _, rfl, rfl, rfl⟩
  case round =>
    obtain ⟨k, n, hk, rfl, rfl, hn⟩ := hrel
    by_cases hlt : k < s.size
    · have hx := u_start n (by rw [hn.out]; exact crcTo_lt (chAt_lt s) k) s k
      have hcell := HC.out k hlt
      obtain ⟨b, hb⟩ : ∃ b, b = chAt s k := ⟨_, rfl⟩
      obtain ⟨c0, hc0⟩ : ∃ c0, c0 = n ^^^ chAt s k := ⟨_, rfl⟩
      rw [← hc0, ← hb] at hx
      rw [← hb] at hcell
      have HCC := Lib.hid hc0
      have HL := Lib.hid (by rw [hc0]; exact xor_lt (by rw [hn.out]; exact crcTo_lt (chAt_lt s) k) (by have := chAt_lt s k; omega) : c0 < 4294967296)
      have hb256 : (b : Int) < 256 := by rw [hb]; have := chAt_lt s k; omega
      have hwb : IntKind.u32.wrap (b : Int) = (b : Int) := by rw [IntKind.wrap_u32']; omega
      clear hc0 hb
      go_wp2
      go_loop [3, 17] (fun c j => ∃ m n' : Nat, m ≤ 8 ∧ j = .int .i64 m ∧ c = .int .u32 n' ∧ Hid (n' = stepN m c0)) (fun _ j => 8 - (intOf j).toNat)
      case atStart => exact ⟨0, c0, by omega, rfl, rfl, rfl⟩
      case round =>
        obtain ⟨m, n', hm, rfl, rfl, hn'⟩ := hrel
        by_cases hlt2 : m < 8
        · have HN := Lib.hid (by rw [hn'.out]; exact stepN_lt HL.out m : n' < 4294967296)
          by_cases e : n' % 2 = 1
          · have HO := Lib.hid (u_odd n' HN.out e)
            have ha : bits .and .u32 (n' : Int) 1 = 1 := by rw [u_and n' HN.out]; omega
            go_wp2
            go_round
            case rel => exact ⟨m + 1, stepC n', by omega, by go_num, by rw [HO.out], (by rw [hn'.out]; rfl : stepC n' = stepN (m + 1) c0)⟩
            case measure => simp [intOf]; omega
          · have HO := Lib.hid (u_even n' HN.out e)
            have ha : bits .and .u32 (n' : Int) 1 = 0 := by rw [u_and n' HN.out]; omega
            go_wp2
            go_round
            case rel => exact ⟨m + 1, stepC n', by omega, by go_num, by rw [HO.out], (by rw [hn'.out]; rfl : stepC n' = stepN (m + 1) c0)⟩
            case measure => simp [intOf]; omega
        · obtain rfl : m = 8 := by omega
          go_wp2
          go_round
          case rel => exact ⟨k + 1, n', by omega, by go_num, rfl, (by rw [hn'.out, HCC.out, hn.out]; rfl : n' = crcTo (chAt s) (k + 1))⟩
          case measure => simp [intOf]; omega
    · obtain rfl : k = s.size := by omega
      have hx := u_end s
      rw [← hn.out] at hx
      have hsg : IntKind.u32.signed = false := rfl
      have hmx : IntKind.u32.max = 4294967295 := by decide
      have hw64 : wrap64 ((crc s : Nat) : Int) = ((crc s : Nat) : Int) := by
        have := crc_lt s
        unfold wrap64
        omega
      go_wp2
      go_ret
      exact ⟨rfl, HB.out⟩

end Go.Proofs.Ytdbnflgckcjlcaa.CkC
