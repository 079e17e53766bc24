/-
  The program's markup writer: hasMark, writeTag, setMarks, writeText, RunsMarkup. For marks of 64 bits; slices that read as a list of at most 2^20 runs with at most 2^20 bytes together.
-/
import Derived.Test.YtmhflifaeplalaaRmM
import Derived.StillTailTactics
import Derived.Outline
namespace Go.Proofs.Ytmhflifaeplalaa.RmA
open Go.RowKit Go.Proofs.Ytmhflifaeplalaa.Base Go.Proofs.Ytmhflifaeplalaa.GsA Go.Proofs.Ytmhflifaeplalaa.GrB Go.Proofs.Ytmhflifaeplalaa.SbA Go.Proofs.Ytmhflifaeplalaa.RtA Go.Proofs.Ytmhflifaeplalaa.BtA Go.Proofs.Ytmhflifaeplalaa.RmM
set_option linter.unusedVariables false

theorem hasMark (m : Int) (hm : -9223372036854775808 ≤ m ∧ m < 9223372036854775808) (b : Nat) (hb3 : b < 3) (w : World) :
    Calls Try.prog 86 #[.int .i64 m, .int .i64 ((b : Int) + 1)] w fun e w' => e = .returned (.bool (hb m b)) ∧ w = w' := by
  have H := Lib.hid (andNot_bit m b hb3 hm)
  clear hm
  obtain rfl | rfl | rfl : b = 0 ∨ b = 1 ∨ b = 2 := by omega
  all_goals
    go_enter Try.func86, Try.ntmps86
    go_wp2
    go_ret
    exact ⟨ret_bool (by rw [← H.out]; rfl), rfl⟩

/-- The builder of the markup writer at block b holds the bytes l; o is open. -/
def MW (B b : Nat) (o : Int) (l : List UInt8) (w : World) : Prop := SB 96 [.int .i64 o] B b (Lib.byteCells l) w
theorem MW.bytes {B b : Nat} {o : Int} {l l' : List UInt8} {w : World} (h : MW B b o l w) (e : l = l') : MW B b o l' w := e ▸ h
theorem MW.below {B b : Nat} {o : Int} {l : List UInt8} {w w' : World} (h : MW B b o l w) (hb : Below w.heap.size w w') : MW B b o l w' := SB.below h hb
theorem MW.open_ {B b : Nat} {o : Int} {l : List UInt8} {w : World} (h : MW B b o l w) : w.cell? ⟨b, 2, none⟩ = some (.int .i64 o) ∧ w.frozen? ⟨b, 2, none⟩ = false ∧ b < w.heap.size := by
  have hl := SB.lt h
  obtain ⟨_, p, v, _, hk, _⟩ := h
  refine ⟨?_, Lib.frozen_of_heap hk 2, hl⟩
  rw [Lib.cell_of_heap hk]
  rfl
theorem MW.set {B b : Nat} {o : Int} {l : List UInt8} {w : World} (h : MW B b o l w) (n : Int) : MW B b n l (w.setCell ⟨b, 2, none⟩ (.int .i64 n)) := by
  obtain ⟨hB, p, v, hp, hk, hown, hne⟩ := h
  refine ⟨hB, p, v, hp, ?_, ?_, hne⟩
  · simp [World.setCell, Array.getElem?_modify, hk]
  · exact hown.kept (row := some b) ⟨rfl, rfl, rfl, by simp [World.setCell], fun k _ hk => Below.heap_setCell _ _ _ _ (fun e => hk (by simp [e]))⟩ (Or.inr hne)
theorem MW.new (w : World) : MW w.heap.size w.heap.size 0 [] (w.alloc (.cells #[.pointer none, .slice none 0 0, .int .i64 0] 96)) := SB.new 96 [.int .i64 0] w

theorem mwString (B b : Nat) (o : Int) (l : List UInt8) (s : ByteArray) (w : World) (h : MW B b o l w) (hlen : l.length + s.size ≤ 1099511627776) (hBw : B ≤ w.heap.size) :
    Calls Try.prog 56 #[.pointer (some ⟨b, 0, none⟩), .string s] w fun e w' => e = .returned (.tuple #[.int .i64 s.size, .nilIface]) ∧ MW B b o (l ++ s.data.toList) w' ∧ Below B w w' ∧ Lib.OthersKept 5 (some b) w w' :=
  (writeStringW o B b _ s w h (by rw [Lib.byteCells_length]; exact hlen) hBw).mono fun e w' ⟨h1, h2, h3, h4⟩ => ⟨h1, SB.bytes h2 (by simp [Lib.byteCells, Lib.strCells]), h3, h4⟩
theorem mwByte (B b : Nat) (o : Int) (l : List UInt8) (c : UInt8) (w : World) (h : MW B b o l w) (hlen : l.length + 1 ≤ 1099511627776) (hBw : B ≤ w.heap.size) :
    Calls Try.prog 88 #[.pointer (some ⟨b, 0, none⟩), .int .u8 c.toNat] w fun e w' => e = .returned .nilIface ∧ MW B b o (l ++ [c]) w' ∧ Below B w w' ∧ Lib.OthersKept 5 (some b) w w' :=
  (writeByteW o B b _ c.toNat w h (by rw [Lib.byteCells_length]; exact hlen) hBw).mono fun e w' ⟨h1, h2, h3, h4⟩ => ⟨h1, SB.bytes h2 (by simp [Lib.byteCells]), h3, h4⟩

set_option maxHeartbeats 1000000 in
theorem writeTag (B b : Nat) (o : Int) (l : List UInt8) (s : ByteArray) (t : Nat) (w : World) (ht : t < 3) (h : MW B b o l w) (hlen : l.length + s.size ≤ 1000000000) (hBw : B ≤ w.heap.size) :
    Calls Try.prog 87 #[.pointer (some ⟨b, 0, none⟩), .string s, .int .i64 ((t : Int) + 1)] w fun e w' => e = .returned (.tuple #[]) ∧ MW B b o (l ++ s.data.toList ++ [tag t, 62]) w' ∧ Below B w w' ∧ Lib.OthersKept 5 (some b) w w' := by
  have HS := Lib.hid (mwString B b o l s w h (by omega) hBw)
  have hls : (l ++ s.data.toList).length ≤ 1000000000 := by
    rw [List.length_append, Array.length_toList]
    exact hlen
  have HLS := Lib.hid hls
  clear h hls hlen
  obtain rfl | rfl | rfl : t = 0 ∨ t = 1 ∨ t = 2 := by omega
  all_goals
    go_enter Try.func87, Try.ntmps87
    go_wp2_with fail
    refine HS.out.mono ?_
    rintro e w1 ⟨rfl, h1, b1, k1⟩
    have HC := Lib.hid (fun c => mwByte B b o _ c w1.drew h1 (by have := HLS.out; omega) (by have := b1.size; show B ≤ w1.heap.size; omega))
    go_wp2
    clear h1
    go_region_with (first | (go_at_call 88; refine (HC.out _).mono ?_; rintro e w2 ⟨rfl, h2, b2, k2⟩))
    have HD := Lib.hid (mwByte B b o _ 62 w2 h2 (by rw [List.length_append, List.length_singleton]; have := HLS.out; omega) (by have h1 := b1.size; have h2 : w1.heap.size ≤ w2.heap.size := b2.size; omega))
    have B2 := (Below.drew b1).trans b2
    have K2 := Lib.hid (k1.drew.trans k2)
    clear h2 b2 k1 k2
    go_wp2_with fail
    refine HD.out.mono ?_
    rintro e w3 ⟨rfl, h3, b3, k3⟩
    go_wp2
    go_end0
    exact ⟨rfl, h3.bytes (by rw [List.append_assoc]; rfl), B2.trans b3, K2.out.trans k3⟩

set_option maxHeartbeats 2000000 in
/-- setMarks writes the tags between what is open and the marks. -/
theorem setMarks (B b : Nat) (o n : Int) (l : List UInt8) (w : World) (ho : -9223372036854775808 ≤ o ∧ o < 9223372036854775808) (hn : -9223372036854775808 ≤ n ∧ n < 9223372036854775808) (h : MW B b o l w) (hlen : l.length ≤ 900000000) (hBw : B ≤ w.heap.size) :
    Calls Try.prog 61 #[.pointer (some ⟨b, 0, none⟩), .int .i64 n] w fun e w' => e = .returned (.tuple #[]) ∧ MW B b n (l ++ tags o n) w' ∧ Below B w w' ∧ Lib.OthersKept 5 (some b) w w' := by
  have HO := Lib.hid (fun b hb3 w => hasMark o ho b hb3 w)
  have HN := Lib.hid (fun b hb3 w => hasMark n hn b hb3 w)
  have HL := Lib.hid hlen
  have HB := Lib.hid (And.intro (Below.refl B w) (Lib.OthersKept.refl 5 (some b) w))
  clear ho hn hlen
  obtain ⟨q0, w0, hw0⟩ : ∃ q w0, w0 = w ∧ q = w0.heap.size := ⟨_, _, rfl, rfl⟩
  go_enter Try.func61, Try.ntmps61
  go_wp2
  go_loopw [4] (fun i wr => ∃ j : Nat, j ≤ 3 ∧ i = .int .i64 (3 - (j : Int)) ∧ MW B b o (l ++ clTo o n j) wr ∧ (Below B w wr ∧ Lib.OthersKept 5 (some b) w wr)) (fun i _ => (intOf i).toNat)
  case atStart => exact ⟨0, by omega, rfl, h.bytes (by simp [clTo]), HB.out⟩
  case round =>
    obtain ⟨j, hj, rfl, hm, hnx⟩ := hrel
    obtain ⟨c2, f2, hlt⟩ := hm.open_
    by_cases h3 : j < 3
    · obtain ⟨t, ht, hjt⟩ : ∃ t : Nat, t < 3 ∧ j = 2 - t := ⟨2 - j, by omega, by omega⟩
      have hi : (3 : Int) - (j : Int) = (t : Int) + 1 := by omega
      rw [hi]
      have hcl : clTo o n (j + 1) = clTo o n j ++ clB o n t := by rw [clTo, show 2 - j = t by omega]
      have HCL := Lib.hid hcl
      clear hcl hi
      have hlz : (l ++ clTo o n j).length ≤ 900000012 := by have h1 := HL.out; have h2 := clTo_len o n j; rw [List.length_append]; omega
      have HLZ := Lib.hid hlz
      have HM := Lib.hid hm
      have HNX := Lib.hid hnx
      have HJ := Lib.hid hjt
      clear hlz hm hnx hjt
      cases ho1 : hb o t
      · have ecl : clB o n t = [] := by simp [clB, ho1]
        have H1 := Lib.hid (HO.out t ht)
        rw [ho1] at H1
        go_wp2_with fail
        refine (H1.out _).mono ?_
        rintro e w1 ⟨rfl, rfl⟩
        go_wp2
        go_roundw
        case rel => exact ⟨j + 1, by omega, by have := HJ.out; congr 1; omega, HM.out.bytes (by rw [HCL.out, ecl, List.append_nil]), HNX.out⟩
        case measure => simp [intOf] <;> omega
      · cases hn1 : hb n t
        · have ecl : clB o n t = [60, 47, tag t, 62] := by simp [clB, ho1, hn1]
          have H1 := Lib.hid (HO.out t ht)
          have H2 := Lib.hid (HN.out t ht)
          rw [ho1] at H1
          rw [hn1] at H2
          go_wp2_with fail
          refine (H1.out _).mono ?_
          rintro e w1 ⟨rfl, rfl⟩
          go_wp2_with fail
          refine (H2.out _).mono ?_
          rintro e w1 ⟨rfl, rfl⟩
          have HT := Lib.hid (fun s (hs : s.size ≤ 2) => writeTag B b o _ s t wr ht HM.out (by have := HLZ.out; omega) (by have := HNX.out.1.size; omega))
          go_wp2_with fail
          refine (HT.out _ (by decide)).mono ?_
          rintro e w1 ⟨rfl, hm1, b1, k1⟩
          go_wp2
          go_roundw
          case rel => exact ⟨j + 1, by omega, by have := HJ.out; congr 1; omega, hm1.bytes (by rw [HCL.out, ecl]; simp), ⟨HNX.out.1.trans b1, HNX.out.2.trans k1⟩⟩
          case measure => simp [intOf] <;> omega
        · have ecl : clB o n t = [] := by simp [clB, hn1]
          have H1 := Lib.hid (HO.out t ht)
          have H2 := Lib.hid (HN.out t ht)
          rw [ho1] at H1
          rw [hn1] at H2
          go_wp2_with fail
          refine (H1.out _).mono ?_
          rintro e w1 ⟨rfl, rfl⟩
          go_wp2_with fail
          refine (H2.out _).mono ?_
          rintro e w1 ⟨rfl, rfl⟩
          go_wp2
          go_roundw
          case rel => exact ⟨j + 1, by omega, by have := HJ.out; congr 1; omega, HM.out.bytes (by rw [HCL.out, ecl, List.append_nil]), HNX.out⟩
          case measure => simp [intOf] <;> omega
    · obtain rfl : j = 3 := by omega
      have e33 : (3 : Int) - ((3 : Nat) : Int) = 0 := by decide
      rw [e33]
      have HM := Lib.hid hm
      have HNX := Lib.hid hnx
      clear hm hnx c2 f2 hlt h3 hj e33
      obtain ⟨W1, hW1⟩ : ∃ W1, W1 = wr := ⟨_, rfl⟩
      subst hW1
      go_wp2
      go_loopw [5] (fun i wr => ∃ j : Nat, j ≤ 3 ∧ i = .int .i64 ((j : Int) + 1) ∧ MW B b o (l ++ clTo o n 3 ++ opTo o n j) wr ∧ (Below B w wr ∧ Lib.OthersKept 5 (some b) w wr)) (fun i _ => 4 - (intOf i).toNat)
      case atStart => exact ⟨0, by omega, rfl, HM.out.bytes (by simp [opTo]), HNX.out⟩
      case round =>
        obtain ⟨t, ht3, rfl, hm, hnx⟩ := hrel
        obtain ⟨c2, f2, hlt⟩ := hm.open_
        by_cases ht : t < 3
        · have hcl : opTo o n (t + 1) = opTo o n t ++ opB o n t := rfl
          have HCL := Lib.hid hcl
          clear hcl
          have hlz : (l ++ clTo o n 3 ++ opTo o n t).length ≤ 900000024 := by have h1 := HL.out; have h2 := clTo_len o n 3; have h3 := opTo_len o n t; rw [List.length_append, List.length_append]; omega
          have HLZ := Lib.hid hlz
          have HM2 := Lib.hid hm
          have HNX2 := Lib.hid hnx
          clear hlz hm hnx
          cases hn1 : hb n t
          · have ecl : opB o n t = [] := by simp [opB, hn1]
            have H1 := Lib.hid (HN.out t ht)
            rw [hn1] at H1
            go_wp2_with fail
            refine (H1.out _).mono ?_
            rintro e w1 ⟨rfl, rfl⟩
            go_wp2
            go_roundw
            case rel => exact ⟨t + 1, by omega, by go_num, HM2.out.bytes (by rw [HCL.out, ecl, List.append_nil]), HNX2.out⟩
            case measure => simp [intOf] <;> omega
          · cases ho1 : hb o t
            · have ecl : opB o n t = [60, tag t, 62] := by simp [opB, ho1, hn1]
              have H1 := Lib.hid (HN.out t ht)
              have H2 := Lib.hid (HO.out t ht)
              rw [hn1] at H1
              rw [ho1] at H2
              go_wp2_with fail
              refine (H1.out _).mono ?_
              rintro e w1 ⟨rfl, rfl⟩
              go_wp2_with fail
              refine (H2.out _).mono ?_
              rintro e w1 ⟨rfl, rfl⟩
              have HT := Lib.hid (fun s (hs : s.size ≤ 2) => writeTag B b o _ s t wr ht HM2.out (by have := HLZ.out; omega) (by have := HNX2.out.1.size; omega))
              go_wp2_with fail
              refine (HT.out _ (by decide)).mono ?_
              rintro e w1 ⟨rfl, hm1, b1, k1⟩
              go_wp2
              go_roundw
              case rel => exact ⟨t + 1, by omega, by go_num, hm1.bytes (by rw [HCL.out, ecl]; simp), ⟨HNX2.out.1.trans b1, HNX2.out.2.trans k1⟩⟩
              case measure => simp [intOf] <;> omega
            · have ecl : opB o n t = [] := by simp [opB, ho1]
              have H1 := Lib.hid (HN.out t ht)
              have H2 := Lib.hid (HO.out t ht)
              rw [hn1] at H1
              rw [ho1] at H2
              go_wp2_with fail
              refine (H1.out _).mono ?_
              rintro e w1 ⟨rfl, rfl⟩
              go_wp2_with fail
              refine (H2.out _).mono ?_
              rintro e w1 ⟨rfl, rfl⟩
              go_wp2
              go_roundw
              case rel => exact ⟨t + 1, by omega, by go_num, HM2.out.bytes (by rw [HCL.out, ecl, List.append_nil]), HNX2.out⟩
              case measure => simp [intOf] <;> omega
        · obtain rfl : t = 3 := by omega
          have HM2 := Lib.hid (hm.set n)
          have HNX2 := Lib.hid (And.intro (hnx.1.setCell (p := ⟨b, 2, none⟩) hm.1 (.int .i64 n)) (hnx.2.setCell ⟨b, 2, none⟩ rfl (.int .i64 n)))
          clear hm hnx
          go_wp2
          go_end0
          exact ⟨rfl, HM2.out.bytes (by simp [tags]), HNX2.out⟩

end Go.Proofs.Ytmhflifaeplalaa.RmA
