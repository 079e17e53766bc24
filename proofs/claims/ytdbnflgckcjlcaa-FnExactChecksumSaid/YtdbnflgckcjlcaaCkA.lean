/-
  CRC-32 as a function of the bytes, and that it tells two texts apart that differ in one byte. Numbers only; no condition.
-/
import Derived.Test.YtdbnflgckcjlcaaBase
import Derived.Laws.BitsAllLaws
import Derived.Laws.Unary
namespace Go.Proofs.Ytdbnflgckcjlcaa.CkA
set_option linter.unusedVariables false

/-- A step by one bit. -/
def stepC (c : Nat) : Nat := if c % 2 = 1 then (c / 2) ^^^ 3988292384 else c / 2
def stepN : Nat → Nat → Nat
  | 0, c => c
  | n + 1, c => stepC (stepN n c)
/-- A step by one byte. -/
def byteC (c b : Nat) : Nat := stepN 8 (c ^^^ b)
/-- The state behind the first k bytes. -/
def crcTo (f : Nat → Nat) : Nat → Nat
  | 0 => 4294967295
  | k + 1 => byteC (crcTo f k) (f k)
/-- The byte at place k of a text. -/
def chAt (s : ByteArray) (k : Nat) : Nat := (s.data.toList.getD k 0).toNat
def crc (s : ByteArray) : Nat := crcTo (chAt s) s.size ^^^ 4294967295

theorem chAt_lt (s : ByteArray) (k : Nat) : chAt s k < 256 := UInt8.toNat_lt _
theorem chAt_get (s : ByteArray) (k : Nat) (h : k < s.size) : (s[k]'h).toNat = chAt s k := by
  cases s with
  | mk d =>
    have h' : k < d.toList.length := by have h2 : k < d.size := h; simpa using h2
    unfold chAt
    rw [List.getD_eq_getElem?_getD, List.getElem?_eq_getElem h']
    simp
    rfl

theorem stepC_lt {c : Nat} (h : c < 4294967296) : stepC c < 4294967296 := by
  unfold stepC
  split
  · exact Nat.xor_lt_two_pow (n := 32) (by omega) (by omega)
  · omega
theorem stepN_lt {c : Nat} (h : c < 4294967296) : ∀ n, stepN n c < 4294967296
  | 0 => h
  | n + 1 => stepC_lt (stepN_lt h n)
theorem xor_lt {c b : Nat} (h : c < 4294967296) (hb : b < 4294967296) : c ^^^ b < 4294967296 := Nat.xor_lt_two_pow (n := 32) h hb
theorem byteC_lt {c b : Nat} (h : c < 4294967296) (hb : b < 256) : byteC c b < 4294967296 := stepN_lt (xor_lt h (by omega)) 8
theorem crcTo_lt {f : Nat → Nat} (hf : ∀ k, f k < 256) : ∀ k, crcTo f k < 4294967296
  | 0 => (by decide : 4294967295 < 4294967296)
  | k + 1 => byteC_lt (crcTo_lt hf k) (hf k)

/-- The top bit of a step tells the last bit of what it was. -/
theorem stepC_top {c : Nat} (h : c < 4294967296) : (stepC c).testBit 31 = decide (c % 2 = 1) := by
  have h2 : (c / 2).testBit 31 = false := Nat.testBit_lt_two_pow (by omega)
  unfold stepC
  by_cases e : c % 2 = 1
  · rw [if_pos e, Nat.testBit_xor, h2, (by decide : Nat.testBit 3988292384 31 = true)]
    simp [e]
  · rw [if_neg e, h2]
    simp [e]
theorem xor_cancel {a b c : Nat} (h : a ^^^ c = b ^^^ c) : a = b := by
  have := congrArg (· ^^^ c) h
  simpa [Nat.xor_assoc, Nat.xor_self] using this
theorem xor_cancel_left {a b c : Nat} (h : c ^^^ a = c ^^^ b) : a = b := by
  rw [Nat.xor_comm c a, Nat.xor_comm c b] at h
  exact xor_cancel h
theorem stepC_inj {a b : Nat} (ha : a < 4294967296) (hb : b < 4294967296) (h : stepC a = stepC b) : a = b := by
  have ht : decide (a % 2 = 1) = decide (b % 2 = 1) := by rw [← stepC_top ha, ← stepC_top hb, h]
  unfold stepC at h
  by_cases e : a % 2 = 1
  · have e' : b % 2 = 1 := by simpa [e] using ht
    rw [if_pos e, if_pos e'] at h
    have := xor_cancel h
    omega
  · have e' : ¬ b % 2 = 1 := by simpa [e] using ht
    rw [if_neg e, if_neg e'] at h
    omega
theorem stepN_inj {a b : Nat} (ha : a < 4294967296) (hb : b < 4294967296) : ∀ n, stepN n a = stepN n b → a = b
  | 0, h => h
  | n + 1, h => stepN_inj ha hb n (stepC_inj (stepN_lt ha n) (stepN_lt hb n) h)
theorem byteC_inj {a b x : Nat} (ha : a < 4294967296) (hb : b < 4294967296) (hx : x < 256) (h : byteC a x = byteC b x) : a = b :=
  xor_cancel (stepN_inj (xor_lt ha (by omega)) (xor_lt hb (by omega)) 8 h)
theorem byteC_byte {a x y : Nat} (ha : a < 4294967296) (hx : x < 256) (hy : y < 256) (h : byteC a x = byteC a y) : x = y :=
  xor_cancel_left (stepN_inj (xor_lt ha (by omega)) (xor_lt ha (by omega)) 8 h)
theorem crcTo_same {f g : Nat → Nat} : ∀ k, (∀ m, m < k → f m = g m) → crcTo f k = crcTo g k
  | 0, _ => rfl
  | k + 1, h => by rw [crcTo, crcTo, crcTo_same k (fun m hm => h m (by omega)), h k (by omega)]
/-- Two texts that differ at one place have different states behind it. -/
theorem crcTo_diff {f g : Nat → Nat} (hf : ∀ k, f k < 256) (hg : ∀ k, g k < 256) {k : Nat} (hne : f k ≠ g k) (hs : ∀ m, m ≠ k → f m = g m) : ∀ n, k < n → crcTo f n ≠ crcTo g n
  | 0, h => by omega
  | n + 1, h => by
    intro e
    rw [crcTo, crcTo] at e
    by_cases hk : n = k
    · subst hk
      rw [crcTo_same n (fun m hm => hs m (by omega))] at e
      exact hne (byteC_byte (crcTo_lt hg n) (hf n) (hg n) e)
    · rw [hs n hk] at e
      exact crcTo_diff hf hg hne hs n (by omega) (byteC_inj (crcTo_lt hf n) (crcTo_lt hg n) (hg n) e)
theorem crc_diff {s t : ByteArray} (hl : s.size = t.size) {k : Nat} (hk : k < s.size) (hne : chAt s k ≠ chAt t k) (hs : ∀ m, m ≠ k → chAt s m = chAt t m) : crc s ≠ crc t := by
  unfold crc
  rw [← hl]
  intro h
  exact crcTo_diff (chAt_lt s) (chAt_lt t) hne hs s.size hk (xor_cancel h)
theorem crc_lt (s : ByteArray) : crc s < 4294967296 := xor_lt (crcTo_lt (chAt_lt s) _) (by decide)

/-- The exclusive or of the machine's 64-bit numbers. -/
theorem i64_xor_nat (a b : Nat) (ha : a < 4294967296) (hb : b < 4294967296) : bits .xor .i64 (a : Int) (b : Int) = ((a ^^^ b : Nat) : Int) := by
  have hx : a ^^^ b < 4294967296 := xor_lt ha hb
  have h1 : (BitVec.ofInt 64 (a : Int)).toNat = a := by
    rw [BitVec.ofInt_natCast, BitVec.toNat_ofNat]; exact Nat.mod_eq_of_lt (by omega)
  have h2 : (BitVec.ofInt 64 (b : Int)).toNat = b := by
    rw [BitVec.ofInt_natCast, BitVec.toNat_ofNat]; exact Nat.mod_eq_of_lt (by omega)
  show IntKind.i64.wrap ((BitVec.ofInt 64 (a : Int) ^^^ BitVec.ofInt 64 (b : Int)).toNat : Int) = _
  rw [BitVec.toNat_xor, h1, h2]
  exact wrap_small _ (by omega) (by omega)

end Go.Proofs.Ytdbnflgckcjlcaa.CkA
