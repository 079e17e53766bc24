/-
  The model's markup: markTag, escapeText, RunsMarkup. For slices that read as a list of at most 2^20 runs with at most 2^20 bytes together.
-/
import Derived.Test.YtmhflifaeplalaaRmB
import Derived.Laws.BytesArg
import Derived.WalkSpells
import Derived.Lib.SmallJoins
namespace Go.Proofs.Ytmhflifaeplalaa.RmC
open Go.RowKit Go.Proofs.Ytmhflifaeplalaa.Base Go.Proofs.Ytmhflifaeplalaa.GsA Go.Proofs.Ytmhflifaeplalaa.GrB Go.Proofs.Ytmhflifaeplalaa.SbA Go.Proofs.Ytmhflifaeplalaa.RtA Go.Proofs.Ytmhflifaeplalaa.BtA Go.Proofs.Ytmhflifaeplalaa.RmM Go.Proofs.Ytmhflifaeplalaa.RmA Go.Proofs.Ytmhflifaeplalaa.RmB
set_option linter.unusedVariables false

/-- The value returned is the text of the bytes l. -/
def Txt (w : World) (l : List UInt8) (e : Ending) (w' : World) : Prop := (∃ s : ByteArray, e = .returned (.string s) ∧ s.data.toList = l) ∧ Below w.heap.size w w'
theorem size_of {s : ByteArray} {l : List UInt8} (h : s.data.toList = l) : s.size = l.length := by rw [← h, Array.length_toList]; rfl
theorem list_append {s t : ByteArray} : (s ++ t).data.toList = s.data.toList ++ t.data.toList := by simp

theorem conv1 (b : Nat) (m : Int) (W : World) (h : W.cell? ⟨b, 0, none⟩ = some (.int .u8 m)) :
    (convert 23 9 (.slice (some ⟨b, 0, none⟩) 1 1)).run Try.prog W = .ok (.string (strOfNums [m])) W := by
  have hcell : ∀ i, i < 1 → W.cell? ⟨b, 0 + i, none⟩ = some (.int .u8 ([m].getD i 0)) := fun i hi => by
    have h0 : i = 0 := by omega
    rw [h0]
    exact h
  exact run_convert_bytes_arg W 23 5 Try.underlying23 Try.underlying5 b 0 1 1 [m] rfl hcell 9 Try.underlying9
attribute [local go_sem] conv1

set_option maxHeartbeats 1000000 in
theorem markTag (t : Nat) (ht : t < 3) (on : Bool) (w : World) :
    Calls Try.prog 59 #[.int .i64 (t : Int), .bool on] w (Txt w (if on then [60, tag t, 62] else [60, 47, tag t, 62])) := by
  obtain rfl | rfl | rfl : t = 0 ∨ t = 1 ∨ t = 2 := by omega
  all_goals
    cases on
    all_goals
      go_enter Try.func59, Try.ntmps59
      go_wp2
      go_ret
      exact ⟨⟨_, rfl, by decide⟩, (Below.refl _ _).alloc (Nat.le_refl _) _⟩

set_option maxHeartbeats 1000000 in
theorem escapeText (s : ByteArray) (w : World) (hs : s.size ≤ 1048576) :
    Calls Try.prog 60 #[.string s] w (Txt w (escL s.data.toList)) := by
  go_enter Try.func60, Try.ntmps60
  go_wp2
  go_loop [3, 4] (fun v i => ∃ (k : Nat) (r : ByteArray), k ≤ s.size ∧ i = .int .i64 k ∧ v = .string r ∧ Hid (r.data.toList = escL (s.data.toList.take k))) (fun _ i => s.size - (intOf i).toNat)
  case atStart => exact ⟨0, _, Nat.zero_le _, rfl, rfl, by rfl⟩
  case round =>
    obtain ⟨k, r, hk, rfl, rfl, hr⟩ := hrel
    by_cases hlt : k < s.size
    · have HE := Lib.hid (escL_snoc s k hlt)
      have hrs : r.size ≤ 5242880 := by have h1 := escL_take_len s k hk hs; rw [size_of hr.out]; exact h1
      have hk0 : (0 : Int) ≤ (k : Int) := Int.natCast_nonneg _
      have hk1 : (k : Int) < (s.size : Int) := by omega
      rcases byte3 s[k] with ⟨e1, he⟩ | ⟨e1, e2, he⟩ | ⟨e1, e2, he⟩
      · have HE2 := Lib.hid he
        clear he
        go_wp2
        go_round
        case rel => exact ⟨k + 1, _, by omega, by go_num, rfl, (by rw [list_append, hr.out, HE.out, HE2.out] : _ = _)⟩
        case measure => simp [intOf] <;> omega
      · have HE2 := Lib.hid he
        clear he
        go_wp2
        go_round
        case rel => exact ⟨k + 1, _, by omega, by go_num, rfl, (by rw [list_append, hr.out, HE.out, HE2.out] : _ = _)⟩
        case measure => simp [intOf] <;> omega
      · have HE2 := Lib.hid he
        clear he
        have hx : (s.extract k (k + 1)).data.toList = [s[k]] := by
          apply List.ext_getElem
          · simp; omega
          · intro i h1 h2
            have : i = 0 := by simp at h2; omega
            subst this
            simp
            rfl
        have hxs : (s.extract k (k + 1)).size ≤ 1 := by rw [size_of hx]; exact Nat.le_refl _
        have HXX := Lib.hid hx
        have hk2 : (k : Int) + 1 ≤ (s.size : Int) := by omega
        clear hx hxs
        go_wp2
        go_round
        case rel => exact ⟨k + 1, _, by omega, by go_num, rfl, (by rw [list_append, hr.out, HE.out, HE2.out, HXX.out] : _ = _)⟩
        case measure => simp [intOf] <;> omega
    · obtain rfl : k = s.size := by omega
      go_wp2
      go_ret
      exact ⟨⟨r, rfl, by rw [hr.out, List.take_of_length_le (by simp)]⟩, Below.refl _ _⟩

/-- What the first k rounds of RunsMarkup have written. -/
def outTo (xs : List RunV) (k : Nat) : List UInt8 := if k ≤ xs.length then body xs k else markup xs
theorem outTo_lt {xs : List RunV} {k : Nat} (h : k < xs.length) : outTo xs (k + 1) = outTo xs k ++ tags (wasAt xs k) (xs.getD k zRun).m ++ escL (xs.getD k zRun).tx.data.toList := by
  unfold outTo
  rw [if_pos (by omega), if_pos (by omega), body]
  rfl
theorem outTo_end (xs : List RunV) : outTo xs (xs.length + 1) = outTo xs xs.length ++ tags (wasAt xs xs.length) 0 := by
  unfold outTo
  rw [if_neg (by omega), if_pos (Nat.le_refl _)]
  rfl
theorem and_is {m v : Int} (h : m % 2 = v) : bits .and .i64 m 1 = v := by rw [and1, h]


set_option maxHeartbeats 8000000 in
set_option maxRecDepth 100000 in
theorem spec_RunsMarkup (a : Option Addr) (c : Nat) (xs : List RunV) (w : World) (hr : RdG ERun w a xs) (hl : xs.length ≤ 1048576) (ht : txs xs xs.length ≤ 1048576) :
    Calls Try.prog 27 #[.slice a xs.length c] w (Txt w (markup xs)) := by
  have HT := Lib.hid (fun k (h : k ≤ xs.length) => Nat.le_trans (txs_le xs h) ht)
  have HR := Lib.hid hr
  clear ht hr
  go_enter Try.func27, Try.ntmps27
  go_wp2
  go_loopw [3, 4, 5] (fun v z i wr => ∃ (k : Nat) (r : ByteArray), k ≤ xs.length + 1 ∧ i = .int .i64 k ∧ v = .string r ∧ Hid (r.data.toList = outTo xs k) ∧ Hid (k ≤ xs.length → z = .int .i64 (wasAt xs k)) ∧ (∃ y : Int, z = .int .i64 y) ∧ Below w.heap.size w wr) (fun _ _ i _ => xs.length + 1 - (intOf i).toNat)
  case atStart => exact ⟨0, _, Nat.zero_le _, rfl, rfl, (by simp [outTo, body] : _ = _), (fun _ => rfl : _ → _), ⟨0, rfl⟩, Below.refl _ _⟩
  case round =>
    obtain ⟨k, r, hk, rfl, rfl, hr, hz, ⟨y, rfl⟩, hnx⟩ := hrel
    have HNX := Lib.hid hnx
    clear hnx
    by_cases hle : k ≤ xs.length
    · have hy : y = wasAt xs k := by have := hz.out hle; simpa using this
      subst hy
      clear hz
      have hrs : r.size ≤ 33554432 := by
        rw [size_of hr.out, outTo, if_pos hle]
        have h1 := body_len xs k
        have h2 := HT.out k hle
        omega
      by_cases hlt : k < xs.length
      · rcases HR.out with h0 | ⟨b, off, rfl, hc⟩
        · rw [h0] at hlt
          cases hlt
        obtain ⟨x, hx⟩ : ∃ x, x = xs.getD k zRun := ⟨_, rfl⟩
        have hrg : wr.rangeAt b (off + k * 2) (ERun.L x) := by rw [hx]; exact rangeAt_below (hc k hlt) HNX.out (rangeAt_ltG ERun (hc k hlt))
        have HRg := Lib.hid (fun W (hB : Below w.heap.size w W) => (by rw [hx]; exact rangeAt_below (hc k hlt) hB (rangeAt_ltG ERun (hc k hlt)) : W.rangeAt b (off + k * 2) (ERun.L x)))
        obtain ⟨c0, _⟩ := cRun hrg
        have HO := Lib.hid (outTo_lt hlt)
        have hsz : x.tx.size ≤ 1048576 := by
          have h1 := HT.out (k + 1) hlt
          rw [show txs xs (k + 1) = txs xs k + (xs.getD k zRun).tx.size from rfl, ← hx] at h1
          omega
        have HWX := Lib.hid (show wasAt xs (k + 1) = x.m by rw [hx]; rfl)
        have HX := Lib.hid hx
        clear hrg hc hx
        obtain ⟨W1, hW1⟩ : ∃ W1, W1 = wr := ⟨_, rfl⟩
        subst hW1
        go_wp2
        go_loopw [3, 7] (fun v i wr => ∃ (j : Nat) (r' : ByteArray), j ≤ 3 ∧ i = .int .i64 (2 - (j : Int)) ∧ v = .string r' ∧ Hid (r'.data.toList = r.data.toList ++ clTo (wasAt xs k) x.m j) ∧ Below w.heap.size w wr) (fun _ i _ => (intOf i + 1).toNat)
        case atStart => exact ⟨0, r, by omega, rfl, rfl, (by simp [clTo] : _ = _), HNX.out⟩
        case round =>
          obtain ⟨j, r', hj, rfl, rfl, hr', hnx⟩ := hrel
          have hrs' : r'.size ≤ 33554480 := by rw [size_of hr'.out, List.length_append, Array.length_toList]; have h1 := clTo_len (wasAt xs k) x.m j; have h2 : r.data.size = r.size := rfl; omega
          have HNX2 := Lib.hid hnx
          clear hnx
          rcases (show j = 3 ∨ j = 0 ∨ j = 1 ∨ j = 2 by omega) with rfl | rfl | rfl | rfl
          · have hR3 := Lib.hid hr'.out
            have hr3s := hrs'
            have e33 : (2 : Int) - ((3 : Nat) : Int) = -1 := by decide
            rw [e33]
            clear e33
            clear hr' hrs' hj
            obtain ⟨W2, hW2⟩ : ∃ W2, W2 = wr := ⟨_, rfl⟩
            subst hW2
            go_wp2
            go_loopw [3, 8] (fun v i wr => ∃ (j : Nat) (r2 : ByteArray), j ≤ 3 ∧ i = .int .i64 (j : Int) ∧ v = .string r2 ∧ Hid (r2.data.toList = r'.data.toList ++ opTo (wasAt xs k) x.m j) ∧ Below w.heap.size w wr) (fun _ i _ => (3 - intOf i).toNat)
            case atStart => exact ⟨0, r', by omega, rfl, rfl, (by simp [opTo] : _ = _), HNX2.out⟩
            case round =>
              obtain ⟨j, r2, hj, rfl, rfl, hr2, hnx⟩ := hrel
              have hrs2 : r2.size ≤ 33554500 := by rw [size_of hr2.out, List.length_append, Array.length_toList]; have h1 := opTo_len (wasAt xs k) x.m j; have h2 : r'.data.size = r'.size := rfl; omega
              have HNX3 := Lib.hid hnx
              clear hnx
              rcases (show j = 3 ∨ j = 0 ∨ j = 1 ∨ j = 2 by omega) with rfl | rfl | rfl | rfl
              · have h4 : r2.data.toList = r.data.toList ++ tags (wasAt xs k) x.m := by rw [hr2.out, hR3.out, tags, List.append_assoc]
                have hR4 := Lib.hid h4
                clear h4
                clear hr2 hR3 hj
                obtain ⟨c0', c1⟩ := cRun (HRg.out _ HNX3.out)
                have HESC := Lib.hid (fun w => escapeText x.tx w hsz)
                go_wp2_with fail
                refine (HESC.out _).mono ?_
                rintro e w1 ⟨⟨t', rfl, ht'⟩, b1⟩
                have hts : t'.size ≤ 5242880 := by rw [size_of ht']; have h1 := escL_len x.tx.data.toList; have h2 : x.tx.data.toList.length = x.tx.size := Array.length_toList; omega
                have HT' := Lib.hid ht'
                clear ht'
                go_wp2
                go_roundw
                case rel => exact ⟨k + 1, _, by omega, by go_num, rfl, (by rw [list_append, hR4.out, hr.out, HO.out, HT'.out, ← HX.out] : _ = _), (fun _ => by rw [HWX.out] : _ → _), ⟨_, rfl⟩, HNX3.out.trans (b1.mono HNX3.out.size)⟩
                case measure => simp [intOf] <;> omega
              · have HS := Lib.hid (show opTo (wasAt xs k) x.m (0 + 1) = opTo (wasAt xs k) x.m 0 ++ opB (wasAt xs k) x.m 0 from rfl)
                rcases bit_cases (wasAt xs k) 0 with ⟨hw, ew⟩ | ⟨hw, ew⟩
                · have bw : bits .and .i64 ((wasAt xs k)) 1 = 1 := and_is (by simpa using ew)
                  have HB := Lib.hid (show opB (wasAt xs k) x.m 0 = [] by simp [opB, hw])
                  clear hw ew
                  go_wp2
                  go_roundw
                  case rel => exact ⟨1, r2, by omega, by first | rfl | go_num, rfl, (by rw [hr2.out, HS.out, HB.out, List.append_nil] : _ = _), HNX3.out⟩
                  case measure => simp [intOf]
                · have bw : bits .and .i64 ((wasAt xs k)) 1 = 0 := and_is (by simpa using ew)
                  rcases bit_cases x.m 0 with ⟨hn, en⟩ | ⟨hn, en⟩
                  · have bn : bits .and .i64 (x.m) 1 = 1 := and_is (by simpa using en)
                    have HB := Lib.hid (show opB (wasAt xs k) x.m 0 = [60, tag 0, 62] by simp [opB, hw, hn])
                    clear hw ew hn en
                    have HM := Lib.hid (fun w => markTag 0 (by omega) true w)
                    go_wp2_with fail
                    refine (HM.out _).mono ?_
                    rintro e w1 ⟨⟨t', rfl, ht'⟩, b1⟩
                    have hts : t'.size ≤ 4 := by rw [size_of ht']; simp
                    have HT := Lib.hid ht'
                    clear ht'
                    go_wp2
                    go_roundw
                    case rel =>
                      refine ⟨1, r2 ++ t', by omega, ?_, rfl, ?_, HNX3.out.trans (b1.mono HNX3.out.size)⟩
                      · first | rfl | go_num
                      · exact (show (r2 ++ t').data.toList = r'.data.toList ++ opTo (wasAt xs k) x.m (0 + 1) from by rw [list_append, hr2.out, HS.out, HB.out, HT.out, List.append_assoc]; rfl)
                    case measure => simp [intOf]
                  · have bn : bits .and .i64 (x.m) 1 = 0 := and_is (by simpa using en)
                    have HB := Lib.hid (show opB (wasAt xs k) x.m 0 = [] by simp [opB, hn])
                    clear hw ew hn en
                    go_wp2
                    go_roundw
                    case rel => exact ⟨1, r2, by omega, by first | rfl | go_num, rfl, (by rw [hr2.out, HS.out, HB.out, List.append_nil] : _ = _), HNX3.out⟩
                    case measure => simp [intOf]
              · have HS := Lib.hid (show opTo (wasAt xs k) x.m (1 + 1) = opTo (wasAt xs k) x.m 1 ++ opB (wasAt xs k) x.m 1 from rfl)
                rcases bit_cases (wasAt xs k) 1 with ⟨hw, ew⟩ | ⟨hw, ew⟩
                · have bw : bits .and .i64 ((wasAt xs k) / 2) 1 = 1 := and_is (by simpa using ew)
                  have HB := Lib.hid (show opB (wasAt xs k) x.m 1 = [] by simp [opB, hw])
                  clear hw ew
                  go_wp2
                  go_roundw
                  case rel => exact ⟨2, r2, by omega, by first | rfl | go_num, rfl, (by rw [hr2.out, HS.out, HB.out, List.append_nil] : _ = _), HNX3.out⟩
                  case measure => simp [intOf]
                · have bw : bits .and .i64 ((wasAt xs k) / 2) 1 = 0 := and_is (by simpa using ew)
                  rcases bit_cases x.m 1 with ⟨hn, en⟩ | ⟨hn, en⟩
                  · have bn : bits .and .i64 (x.m / 2) 1 = 1 := and_is (by simpa using en)
                    have HB := Lib.hid (show opB (wasAt xs k) x.m 1 = [60, tag 1, 62] by simp [opB, hw, hn])
                    clear hw ew hn en
                    have HM := Lib.hid (fun w => markTag 1 (by omega) true w)
                    go_wp2_with fail
                    refine (HM.out _).mono ?_
                    rintro e w1 ⟨⟨t', rfl, ht'⟩, b1⟩
                    have hts : t'.size ≤ 4 := by rw [size_of ht']; simp
                    have HT := Lib.hid ht'
                    clear ht'
                    go_wp2
                    go_roundw
                    case rel =>
                      refine ⟨2, r2 ++ t', by omega, ?_, rfl, ?_, HNX3.out.trans (b1.mono HNX3.out.size)⟩
                      · first | rfl | go_num
                      · exact (show (r2 ++ t').data.toList = r'.data.toList ++ opTo (wasAt xs k) x.m (1 + 1) from by rw [list_append, hr2.out, HS.out, HB.out, HT.out, List.append_assoc]; rfl)
                    case measure => simp [intOf]
                  · have bn : bits .and .i64 (x.m / 2) 1 = 0 := and_is (by simpa using en)
                    have HB := Lib.hid (show opB (wasAt xs k) x.m 1 = [] by simp [opB, hn])
                    clear hw ew hn en
                    go_wp2
                    go_roundw
                    case rel => exact ⟨2, r2, by omega, by first | rfl | go_num, rfl, (by rw [hr2.out, HS.out, HB.out, List.append_nil] : _ = _), HNX3.out⟩
                    case measure => simp [intOf]
              · have HS := Lib.hid (show opTo (wasAt xs k) x.m (2 + 1) = opTo (wasAt xs k) x.m 2 ++ opB (wasAt xs k) x.m 2 from rfl)
                rcases bit_cases (wasAt xs k) 2 with ⟨hw, ew⟩ | ⟨hw, ew⟩
                · have bw : bits .and .i64 ((wasAt xs k) / 4) 1 = 1 := and_is (by simpa using ew)
                  have HB := Lib.hid (show opB (wasAt xs k) x.m 2 = [] by simp [opB, hw])
                  clear hw ew
                  go_wp2
                  go_roundw
                  case rel => exact ⟨3, r2, by omega, by first | rfl | go_num, rfl, (by rw [hr2.out, HS.out, HB.out, List.append_nil] : _ = _), HNX3.out⟩
                  case measure => simp [intOf]
                · have bw : bits .and .i64 ((wasAt xs k) / 4) 1 = 0 := and_is (by simpa using ew)
                  rcases bit_cases x.m 2 with ⟨hn, en⟩ | ⟨hn, en⟩
                  · have bn : bits .and .i64 (x.m / 4) 1 = 1 := and_is (by simpa using en)
                    have HB := Lib.hid (show opB (wasAt xs k) x.m 2 = [60, tag 2, 62] by simp [opB, hw, hn])
                    clear hw ew hn en
                    have HM := Lib.hid (fun w => markTag 2 (by omega) true w)
                    go_wp2_with fail
                    refine (HM.out _).mono ?_
                    rintro e w1 ⟨⟨t', rfl, ht'⟩, b1⟩
                    have hts : t'.size ≤ 4 := by rw [size_of ht']; simp
                    have HT := Lib.hid ht'
                    clear ht'
                    go_wp2
                    go_roundw
                    case rel =>
                      refine ⟨3, r2 ++ t', by omega, ?_, rfl, ?_, HNX3.out.trans (b1.mono HNX3.out.size)⟩
                      · first | rfl | go_num
                      · exact (show (r2 ++ t').data.toList = r'.data.toList ++ opTo (wasAt xs k) x.m (2 + 1) from by rw [list_append, hr2.out, HS.out, HB.out, HT.out, List.append_assoc]; rfl)
                    case measure => simp [intOf]
                  · have bn : bits .and .i64 (x.m / 4) 1 = 0 := and_is (by simpa using en)
                    have HB := Lib.hid (show opB (wasAt xs k) x.m 2 = [] by simp [opB, hn])
                    clear hw ew hn en
                    go_wp2
                    go_roundw
                    case rel => exact ⟨3, r2, by omega, by first | rfl | go_num, rfl, (by rw [hr2.out, HS.out, HB.out, List.append_nil] : _ = _), HNX3.out⟩
                    case measure => simp [intOf]
          · have HS := Lib.hid (show clTo (wasAt xs k) x.m (0 + 1) = clTo (wasAt xs k) x.m 0 ++ clB (wasAt xs k) x.m 2 from rfl)
            rcases bit_cases (wasAt xs k) 2 with ⟨hw, ew⟩ | ⟨hw, ew⟩
            · have bw : bits .and .i64 ((wasAt xs k) / 4) 1 = 1 := and_is (by simpa using ew)
              rcases bit_cases x.m 2 with ⟨hn, en⟩ | ⟨hn, en⟩
              · have bn : bits .and .i64 (x.m / 4) 1 = 1 := and_is (by simpa using en)
                have HB := Lib.hid (show clB (wasAt xs k) x.m 2 = [] by simp [clB, hn])
                clear hw ew hn en
                go_wp2
                go_roundw
                case rel => exact ⟨1, r', by omega, by first | rfl | go_num, rfl, (by rw [hr'.out, HS.out, HB.out, List.append_nil] : _ = _), HNX2.out⟩
                case measure => simp [intOf]
              · have bn : bits .and .i64 (x.m / 4) 1 = 0 := and_is (by simpa using en)
                have HB := Lib.hid (show clB (wasAt xs k) x.m 2 = [60, 47, tag 2, 62] by simp [clB, hw, hn])
                clear hw ew hn en
                have HM := Lib.hid (fun w => markTag 2 (by omega) false w)
                go_wp2_with fail
                refine (HM.out _).mono ?_
                rintro e w1 ⟨⟨t', rfl, ht'⟩, b1⟩
                have hts : t'.size ≤ 4 := by rw [size_of ht']; simp
                have HT := Lib.hid ht'
                clear ht'
                go_wp2
                go_roundw
                case rel =>
                  refine ⟨1, r' ++ t', by omega, ?_, rfl, ?_, HNX2.out.trans (b1.mono HNX2.out.size)⟩
                  · first | rfl | go_num
                  · exact (show (r' ++ t').data.toList = r.data.toList ++ clTo (wasAt xs k) x.m (0 + 1) from by rw [list_append, hr'.out, HS.out, HB.out, HT.out, List.append_assoc]; rfl)
                case measure => simp [intOf]
            · have bw : bits .and .i64 ((wasAt xs k) / 4) 1 = 0 := and_is (by simpa using ew)
              have HB := Lib.hid (show clB (wasAt xs k) x.m 2 = [] by simp [clB, hw])
              clear hw ew
              go_wp2
              go_roundw
              case rel => exact ⟨1, r', by omega, by first | rfl | go_num, rfl, (by rw [hr'.out, HS.out, HB.out, List.append_nil] : _ = _), HNX2.out⟩
              case measure => simp [intOf]
          · have HS := Lib.hid (show clTo (wasAt xs k) x.m (1 + 1) = clTo (wasAt xs k) x.m 1 ++ clB (wasAt xs k) x.m 1 from rfl)
            rcases bit_cases (wasAt xs k) 1 with ⟨hw, ew⟩ | ⟨hw, ew⟩
            · have bw : bits .and .i64 ((wasAt xs k) / 2) 1 = 1 := and_is (by simpa using ew)
              rcases bit_cases x.m 1 with ⟨hn, en⟩ | ⟨hn, en⟩
              · have bn : bits .and .i64 (x.m / 2) 1 = 1 := and_is (by simpa using en)
                have HB := Lib.hid (show clB (wasAt xs k) x.m 1 = [] by simp [clB, hn])
                clear hw ew hn en
                go_wp2
                go_roundw
                case rel => exact ⟨2, r', by omega, by first | rfl | go_num, rfl, (by rw [hr'.out, HS.out, HB.out, List.append_nil] : _ = _), HNX2.out⟩
                case measure => simp [intOf]
              · have bn : bits .and .i64 (x.m / 2) 1 = 0 := and_is (by simpa using en)
                have HB := Lib.hid (show clB (wasAt xs k) x.m 1 = [60, 47, tag 1, 62] by simp [clB, hw, hn])
                clear hw ew hn en
                have HM := Lib.hid (fun w => markTag 1 (by omega) false w)
                go_wp2_with fail
                refine (HM.out _).mono ?_
                rintro e w1 ⟨⟨t', rfl, ht'⟩, b1⟩
                have hts : t'.size ≤ 4 := by rw [size_of ht']; simp
                have HT := Lib.hid ht'
                clear ht'
                go_wp2
                go_roundw
                case rel =>
                  refine ⟨2, r' ++ t', by omega, ?_, rfl, ?_, HNX2.out.trans (b1.mono HNX2.out.size)⟩
                  · first | rfl | go_num
                  · exact (show (r' ++ t').data.toList = r.data.toList ++ clTo (wasAt xs k) x.m (1 + 1) from by rw [list_append, hr'.out, HS.out, HB.out, HT.out, List.append_assoc]; rfl)
                case measure => simp [intOf]
            · have bw : bits .and .i64 ((wasAt xs k) / 2) 1 = 0 := and_is (by simpa using ew)
              have HB := Lib.hid (show clB (wasAt xs k) x.m 1 = [] by simp [clB, hw])
              clear hw ew
              go_wp2
              go_roundw
              case rel => exact ⟨2, r', by omega, by first | rfl | go_num, rfl, (by rw [hr'.out, HS.out, HB.out, List.append_nil] : _ = _), HNX2.out⟩
              case measure => simp [intOf]
          · have HS := Lib.hid (show clTo (wasAt xs k) x.m (2 + 1) = clTo (wasAt xs k) x.m 2 ++ clB (wasAt xs k) x.m 0 from rfl)
            rcases bit_cases (wasAt xs k) 0 with ⟨hw, ew⟩ | ⟨hw, ew⟩
            · have bw : bits .and .i64 ((wasAt xs k)) 1 = 1 := and_is (by simpa using ew)
              rcases bit_cases x.m 0 with ⟨hn, en⟩ | ⟨hn, en⟩
              · have bn : bits .and .i64 (x.m) 1 = 1 := and_is (by simpa using en)
                have HB := Lib.hid (show clB (wasAt xs k) x.m 0 = [] by simp [clB, hn])
                clear hw ew hn en
                go_wp2
                go_roundw
                case rel => exact ⟨3, r', by omega, by first | rfl | go_num, rfl, (by rw [hr'.out, HS.out, HB.out, List.append_nil] : _ = _), HNX2.out⟩
                case measure => simp [intOf]
              · have bn : bits .and .i64 (x.m) 1 = 0 := and_is (by simpa using en)
                have HB := Lib.hid (show clB (wasAt xs k) x.m 0 = [60, 47, tag 0, 62] by simp [clB, hw, hn])
                clear hw ew hn en
                have HM := Lib.hid (fun w => markTag 0 (by omega) false w)
                go_wp2_with fail
                refine (HM.out _).mono ?_
                rintro e w1 ⟨⟨t', rfl, ht'⟩, b1⟩
                have hts : t'.size ≤ 4 := by rw [size_of ht']; simp
                have HT := Lib.hid ht'
                clear ht'
                go_wp2
                go_roundw
                case rel =>
                  refine ⟨3, r' ++ t', by omega, ?_, rfl, ?_, HNX2.out.trans (b1.mono HNX2.out.size)⟩
                  · first | rfl | go_num
                  · exact (show (r' ++ t').data.toList = r.data.toList ++ clTo (wasAt xs k) x.m (2 + 1) from by rw [list_append, hr'.out, HS.out, HB.out, HT.out, List.append_assoc]; rfl)
                case measure => simp [intOf]
            · have bw : bits .and .i64 ((wasAt xs k)) 1 = 0 := and_is (by simpa using ew)
              have HB := Lib.hid (show clB (wasAt xs k) x.m 0 = [] by simp [clB, hw])
              clear hw ew
              go_wp2
              go_roundw
              case rel => exact ⟨3, r', by omega, by first | rfl | go_num, rfl, (by rw [hr'.out, HS.out, HB.out, List.append_nil] : _ = _), HNX2.out⟩
              case measure => simp [intOf]
      · have hkk : k = xs.length := by omega
        have HO := Lib.hid (show outTo xs (k + 1) = outTo xs k ++ tags (wasAt xs k) 0 by rw [hkk]; exact outTo_end xs)
        have hk1 : (k : Int) ≤ (xs.length : Int) := by omega
        have hk2 : (xs.length : Int) ≤ (k : Int) := by omega
        clear hkk
        obtain ⟨W1, hW1⟩ : ∃ W1, W1 = wr := ⟨_, rfl⟩
        subst hW1
        go_wp2
        go_loopw [3, 7] (fun v i wr => ∃ (j : Nat) (r' : ByteArray), j ≤ 3 ∧ i = .int .i64 (2 - (j : Int)) ∧ v = .string r' ∧ Hid (r'.data.toList = r.data.toList ++ clTo (wasAt xs k) 0 j) ∧ Below w.heap.size w wr) (fun _ i _ => (intOf i + 1).toNat)
        case atStart => exact ⟨0, r, by omega, rfl, rfl, (by simp [clTo] : _ = _), HNX.out⟩
        case round =>
          obtain ⟨j, r', hj, rfl, rfl, hr', hnx⟩ := hrel
          have hrs' : r'.size ≤ 33554480 := by rw [size_of hr'.out, List.length_append, Array.length_toList]; have h1 := clTo_len (wasAt xs k) 0 j; have h2 : r.data.size = r.size := rfl; omega
          have HNX2 := Lib.hid hnx
          clear hnx
          rcases (show j = 3 ∨ j = 0 ∨ j = 1 ∨ j = 2 by omega) with rfl | rfl | rfl | rfl
          · have hR3 := Lib.hid hr'.out
            have hr3s := hrs'
            have e33 : (2 : Int) - ((3 : Nat) : Int) = -1 := by decide
            rw [e33]
            clear e33
            clear hr' hrs' hj
            obtain ⟨W2, hW2⟩ : ∃ W2, W2 = wr := ⟨_, rfl⟩
            subst hW2
            go_wp2
            go_loopw [3, 8] (fun v i wr => ∃ (j : Nat) (r2 : ByteArray), j ≤ 3 ∧ i = .int .i64 (j : Int) ∧ v = .string r2 ∧ Hid (r2.data.toList = r'.data.toList ++ opTo (wasAt xs k) 0 j) ∧ Below w.heap.size w wr) (fun _ i _ => (3 - intOf i).toNat)
            case atStart => exact ⟨0, r', by omega, rfl, rfl, (by simp [opTo] : _ = _), HNX2.out⟩
            case round =>
              obtain ⟨j, r2, hj, rfl, rfl, hr2, hnx⟩ := hrel
              have hrs2 : r2.size ≤ 33554500 := by rw [size_of hr2.out, List.length_append, Array.length_toList]; have h1 := opTo_len (wasAt xs k) 0 j; have h2 : r'.data.size = r'.size := rfl; omega
              have HNX3 := Lib.hid hnx
              clear hnx
              rcases (show j = 3 ∨ j = 0 ∨ j = 1 ∨ j = 2 by omega) with rfl | rfl | rfl | rfl
              · have h4 : r2.data.toList = r.data.toList ++ tags (wasAt xs k) 0 := by rw [hr2.out, hR3.out, tags, List.append_assoc]
                have hR4 := Lib.hid h4
                clear h4
                clear hr2 hR3 hj
                go_wp2
                go_roundw
                case rel => exact ⟨k + 1, _, by omega, by go_num, rfl, (by rw [hR4.out, hr.out, HO.out] : _ = _), (fun h => absurd h (by omega) : _ → _), ⟨_, rfl⟩, HNX3.out⟩
                case measure => simp [intOf] <;> omega
              · have HS := Lib.hid (show opTo (wasAt xs k) 0 (0 + 1) = opTo (wasAt xs k) 0 0 ++ opB (wasAt xs k) 0 0 from rfl)
                rcases bit_cases (wasAt xs k) 0 with ⟨hw, ew⟩ | ⟨hw, ew⟩
                · have bw : bits .and .i64 ((wasAt xs k)) 1 = 1 := and_is (by simpa using ew)
                  have HB := Lib.hid (show opB (wasAt xs k) 0 0 = [] by simp [opB, hw])
                  clear hw ew
                  go_wp2
                  go_roundw
                  case rel => exact ⟨1, r2, by omega, by first | rfl | go_num, rfl, (by rw [hr2.out, HS.out, HB.out, List.append_nil] : _ = _), HNX3.out⟩
                  case measure => simp [intOf]
                · have bw : bits .and .i64 ((wasAt xs k)) 1 = 0 := and_is (by simpa using ew)
                  have hn : hb 0 0 = false := by decide
                  · have bn : bits .and .i64 0 1 = 0 := by decide
                    have HB := Lib.hid (show opB (wasAt xs k) 0 0 = [] by simp [opB, hn])
                    clear hw ew hn
                    go_wp2
                    go_roundw
                    case rel => exact ⟨1, r2, by omega, by first | rfl | go_num, rfl, (by rw [hr2.out, HS.out, HB.out, List.append_nil] : _ = _), HNX3.out⟩
                    case measure => simp [intOf]
              · have HS := Lib.hid (show opTo (wasAt xs k) 0 (1 + 1) = opTo (wasAt xs k) 0 1 ++ opB (wasAt xs k) 0 1 from rfl)
                rcases bit_cases (wasAt xs k) 1 with ⟨hw, ew⟩ | ⟨hw, ew⟩
                · have bw : bits .and .i64 ((wasAt xs k) / 2) 1 = 1 := and_is (by simpa using ew)
                  have HB := Lib.hid (show opB (wasAt xs k) 0 1 = [] by simp [opB, hw])
                  clear hw ew
                  go_wp2
                  go_roundw
                  case rel => exact ⟨2, r2, by omega, by first | rfl | go_num, rfl, (by rw [hr2.out, HS.out, HB.out, List.append_nil] : _ = _), HNX3.out⟩
                  case measure => simp [intOf]
                · have bw : bits .and .i64 ((wasAt xs k) / 2) 1 = 0 := and_is (by simpa using ew)
                  have hn : hb 0 1 = false := by decide
                  · have bn : bits .and .i64 0 1 = 0 := by decide
                    have HB := Lib.hid (show opB (wasAt xs k) 0 1 = [] by simp [opB, hn])
                    clear hw ew hn
                    go_wp2
                    go_roundw
                    case rel => exact ⟨2, r2, by omega, by first | rfl | go_num, rfl, (by rw [hr2.out, HS.out, HB.out, List.append_nil] : _ = _), HNX3.out⟩
                    case measure => simp [intOf]
              · have HS := Lib.hid (show opTo (wasAt xs k) 0 (2 + 1) = opTo (wasAt xs k) 0 2 ++ opB (wasAt xs k) 0 2 from rfl)
                rcases bit_cases (wasAt xs k) 2 with ⟨hw, ew⟩ | ⟨hw, ew⟩
                · have bw : bits .and .i64 ((wasAt xs k) / 4) 1 = 1 := and_is (by simpa using ew)
                  have HB := Lib.hid (show opB (wasAt xs k) 0 2 = [] by simp [opB, hw])
                  clear hw ew
                  go_wp2
                  go_roundw
                  case rel => exact ⟨3, r2, by omega, by first | rfl | go_num, rfl, (by rw [hr2.out, HS.out, HB.out, List.append_nil] : _ = _), HNX3.out⟩
                  case measure => simp [intOf]
                · have bw : bits .and .i64 ((wasAt xs k) / 4) 1 = 0 := and_is (by simpa using ew)
                  have hn : hb 0 2 = false := by decide
                  · have bn : bits .and .i64 0 1 = 0 := by decide
                    have HB := Lib.hid (show opB (wasAt xs k) 0 2 = [] by simp [opB, hn])
                    clear hw ew hn
                    go_wp2
                    go_roundw
                    case rel => exact ⟨3, r2, by omega, by first | rfl | go_num, rfl, (by rw [hr2.out, HS.out, HB.out, List.append_nil] : _ = _), HNX3.out⟩
                    case measure => simp [intOf]
          · have HS := Lib.hid (show clTo (wasAt xs k) 0 (0 + 1) = clTo (wasAt xs k) 0 0 ++ clB (wasAt xs k) 0 2 from rfl)
            rcases bit_cases (wasAt xs k) 2 with ⟨hw, ew⟩ | ⟨hw, ew⟩
            · have bw : bits .and .i64 ((wasAt xs k) / 4) 1 = 1 := and_is (by simpa using ew)
              have hn : hb 0 2 = false := by decide
              · have bn : bits .and .i64 0 1 = 0 := by decide
                have HB := Lib.hid (show clB (wasAt xs k) 0 2 = [60, 47, tag 2, 62] by simp [clB, hw, hn])
                clear hw ew hn
                have HM := Lib.hid (fun w => markTag 2 (by omega) false w)
                go_wp2_with fail
                refine (HM.out _).mono ?_
                rintro e w1 ⟨⟨t', rfl, ht'⟩, b1⟩
                have hts : t'.size ≤ 4 := by rw [size_of ht']; simp
                have HT := Lib.hid ht'
                clear ht'
                go_wp2
                go_roundw
                case rel =>
                  refine ⟨1, r' ++ t', by omega, ?_, rfl, ?_, HNX2.out.trans (b1.mono HNX2.out.size)⟩
                  · first | rfl | go_num
                  · exact (show (r' ++ t').data.toList = r.data.toList ++ clTo (wasAt xs k) 0 (0 + 1) from by rw [list_append, hr'.out, HS.out, HB.out, HT.out, List.append_assoc]; rfl)
                case measure => simp [intOf]
            · have bw : bits .and .i64 ((wasAt xs k) / 4) 1 = 0 := and_is (by simpa using ew)
              have HB := Lib.hid (show clB (wasAt xs k) 0 2 = [] by simp [clB, hw])
              clear hw ew
              go_wp2
              go_roundw
              case rel => exact ⟨1, r', by omega, by first | rfl | go_num, rfl, (by rw [hr'.out, HS.out, HB.out, List.append_nil] : _ = _), HNX2.out⟩
              case measure => simp [intOf]
          · have HS := Lib.hid (show clTo (wasAt xs k) 0 (1 + 1) = clTo (wasAt xs k) 0 1 ++ clB (wasAt xs k) 0 1 from rfl)
            rcases bit_cases (wasAt xs k) 1 with ⟨hw, ew⟩ | ⟨hw, ew⟩
            · have bw : bits .and .i64 ((wasAt xs k) / 2) 1 = 1 := and_is (by simpa using ew)
              have hn : hb 0 1 = false := by decide
              · have bn : bits .and .i64 0 1 = 0 := by decide
                have HB := Lib.hid (show clB (wasAt xs k) 0 1 = [60, 47, tag 1, 62] by simp [clB, hw, hn])
                clear hw ew hn
                have HM := Lib.hid (fun w => markTag 1 (by omega) false w)
                go_wp2_with fail
                refine (HM.out _).mono ?_
                rintro e w1 ⟨⟨t', rfl, ht'⟩, b1⟩
                have hts : t'.size ≤ 4 := by rw [size_of ht']; simp
                have HT := Lib.hid ht'
                clear ht'
                go_wp2
                go_roundw
                case rel =>
                  refine ⟨2, r' ++ t', by omega, ?_, rfl, ?_, HNX2.out.trans (b1.mono HNX2.out.size)⟩
                  · first | rfl | go_num
                  · exact (show (r' ++ t').data.toList = r.data.toList ++ clTo (wasAt xs k) 0 (1 + 1) from by rw [list_append, hr'.out, HS.out, HB.out, HT.out, List.append_assoc]; rfl)
                case measure => simp [intOf]
            · have bw : bits .and .i64 ((wasAt xs k) / 2) 1 = 0 := and_is (by simpa using ew)
              have HB := Lib.hid (show clB (wasAt xs k) 0 1 = [] by simp [clB, hw])
              clear hw ew
              go_wp2
              go_roundw
              case rel => exact ⟨2, r', by omega, by first | rfl | go_num, rfl, (by rw [hr'.out, HS.out, HB.out, List.append_nil] : _ = _), HNX2.out⟩
              case measure => simp [intOf]
          · have HS := Lib.hid (show clTo (wasAt xs k) 0 (2 + 1) = clTo (wasAt xs k) 0 2 ++ clB (wasAt xs k) 0 0 from rfl)
            rcases bit_cases (wasAt xs k) 0 with ⟨hw, ew⟩ | ⟨hw, ew⟩
            · have bw : bits .and .i64 ((wasAt xs k)) 1 = 1 := and_is (by simpa using ew)
              have hn : hb 0 0 = false := by decide
              · have bn : bits .and .i64 0 1 = 0 := by decide
                have HB := Lib.hid (show clB (wasAt xs k) 0 0 = [60, 47, tag 0, 62] by simp [clB, hw, hn])
                clear hw ew hn
                have HM := Lib.hid (fun w => markTag 0 (by omega) false w)
                go_wp2_with fail
                refine (HM.out _).mono ?_
                rintro e w1 ⟨⟨t', rfl, ht'⟩, b1⟩
                have hts : t'.size ≤ 4 := by rw [size_of ht']; simp
                have HT := Lib.hid ht'
                clear ht'
                go_wp2
                go_roundw
                case rel =>
                  refine ⟨3, r' ++ t', by omega, ?_, rfl, ?_, HNX2.out.trans (b1.mono HNX2.out.size)⟩
                  · first | rfl | go_num
                  · exact (show (r' ++ t').data.toList = r.data.toList ++ clTo (wasAt xs k) 0 (2 + 1) from by rw [list_append, hr'.out, HS.out, HB.out, HT.out, List.append_assoc]; rfl)
                case measure => simp [intOf]
            · have bw : bits .and .i64 ((wasAt xs k)) 1 = 0 := and_is (by simpa using ew)
              have HB := Lib.hid (show clB (wasAt xs k) 0 0 = [] by simp [clB, hw])
              clear hw ew
              go_wp2
              go_roundw
              case rel => exact ⟨3, r', by omega, by first | rfl | go_num, rfl, (by rw [hr'.out, HS.out, HB.out, List.append_nil] : _ = _), HNX2.out⟩
              case measure => simp [intOf]
    · obtain rfl : k = xs.length + 1 := by omega
      have hk1 : (xs.length : Int) < ((xs.length + 1 : Nat) : Int) := by omega
      go_wp2
      go_ret
      exact ⟨⟨r, rfl, by rw [hr.out, outTo, if_neg (by omega)]⟩, HNX.out⟩

end Go.Proofs.Ytmhflifaeplalaa.RmC
