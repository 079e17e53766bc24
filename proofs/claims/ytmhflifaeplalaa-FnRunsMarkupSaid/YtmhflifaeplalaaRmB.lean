/-
  The program's markup writer: writeText, RunsMarkup. For slices that read as a list of at most 2^20 runs with at most 2^20 bytes together and marks of 64 bits.
-/
import Derived.Test.YtmhflifaeplalaaRmA
namespace Go.Proofs.Ytmhflifaeplalaa.RmB
open Go.RowKit Go.Proofs.Ytmhflifaeplalaa.Base Go.Proofs.Ytmhflifaeplalaa.GsA Go.Proofs.Ytmhflifaeplalaa.GrB Go.Proofs.Ytmhflifaeplalaa.SbA Go.Proofs.Ytmhflifaeplalaa.RtA Go.Proofs.Ytmhflifaeplalaa.BtA Go.Proofs.Ytmhflifaeplalaa.RmM Go.Proofs.Ytmhflifaeplalaa.RmA
set_option linter.unusedVariables false

theorem take_snoc (s : ByteArray) (k : Nat) (h : k < s.size) : s.data.toList.take (k + 1) = s.data.toList.take k ++ [s[k]] := by
  rw [List.take_succ_eq_append_getElem (by simpa using h)]; rfl
theorem escL_snoc (s : ByteArray) (k : Nat) (h : k < s.size) : escL (s.data.toList.take (k + 1)) = escL (s.data.toList.take k) ++ esc s[k] := by
  rw [take_snoc s k h, escL_append]; simp [escL]
theorem escL_take_len (s : ByteArray) (k : Nat) (h : k ≤ s.size) (hs : s.size ≤ 1048576) : (escL (s.data.toList.take k)).length ≤ 5242880 := by
  have h1 := escL_len (s.data.toList.take k)
  have h2 : (s.data.toList.take k).length ≤ k := List.length_take_le _ _
  omega
/-- A byte is '<', or '&', or neither. -/
theorem byte3 (c : UInt8) : (((c.toNat : Int) == 60) = true ∧ esc c = [38, 108, 116, 59]) ∨ (((c.toNat : Int) == 60) = false ∧ ((c.toNat : Int) == 38) = true ∧ esc c = [38, 97, 109, 112, 59]) ∨ (((c.toNat : Int) == 60) = false ∧ ((c.toNat : Int) == 38) = false ∧ esc c = [c]) := by
  by_cases h1 : c = 60
  · subst h1; left; decide
  · have e1 : ((c.toNat : Int) == 60) = false := by
      apply beq_false_of_ne
      intro h
      apply h1
      apply UInt8.toNat_inj.1
      show c.toNat = 60
      omega
    by_cases h2 : c = 38
    · subst h2; right; left; decide
    · have e2 : ((c.toNat : Int) == 38) = false := by
        apply beq_false_of_ne
        intro h
        apply h2
        apply UInt8.toNat_inj.1
        show c.toNat = 38
        omega
      right; right
      exact ⟨e1, e2, by simp [esc, h1, h2]⟩

set_option maxHeartbeats 2000000 in
theorem writeText (B b : Nat) (o : Int) (l : List UInt8) (s : ByteArray) (w : World) (hs : s.size ≤ 1048576) (h : MW B b o l w) (hlen : l.length ≤ 900000000) (hBw : B ≤ w.heap.size) :
    Calls Try.prog 62 #[.pointer (some ⟨b, 0, none⟩), .string s] w fun e w' => e = .returned (.tuple #[]) ∧ MW B b o (l ++ escL s.data.toList) w' ∧ Below B w w' ∧ Lib.OthersKept 5 (some b) w w' := by
  have HL := Lib.hid hlen
  have HB := Lib.hid (And.intro (Below.refl B w) (Lib.OthersKept.refl 5 (some b) w))
  clear hlen
  go_enter Try.func62, Try.ntmps62
  go_wp2
  go_loopw [4] (fun i wr => ∃ k : Nat, k ≤ s.size ∧ i = .int .i64 k ∧ MW B b o (l ++ escL (s.data.toList.take k)) wr ∧ (Below B w wr ∧ Lib.OthersKept 5 (some b) w wr)) (fun i _ => s.size - (intOf i).toNat)
  case atStart => exact ⟨0, Nat.zero_le _, rfl, h.bytes (by simp [escL]), HB.out⟩
  case round =>
    obtain ⟨k, hk, rfl, hm, hnx⟩ := hrel
    by_cases hlt : k < s.size
    · have HE := Lib.hid (escL_snoc s k hlt)
      have HX := Lib.hid (escL_take_len s k hk hs)
      have hz := hnx.1.size
      have HW := Lib.hid (fun (t : ByteArray) (ht : t.size ≤ 5) => mwString B b o _ t wr hm (by rw [List.length_append]; have := HX.out; have := HL.out; omega) (by omega))
      have HC := Lib.hid (fun (c : UInt8) => mwByte B b o _ c wr.drew hm (by rw [List.length_append]; have := HX.out; have := HL.out; omega) (by show B ≤ wr.heap.size; omega))
      have HNX := Lib.hid hnx
      clear hm hnx
      have hk0 : (0 : Int) ≤ (k : Int) := Int.natCast_nonneg _
      have hk1 : (k : Int) < (s.size : Int) := by omega
      rcases byte3 s[k] with ⟨e1, he⟩ | ⟨e1, e2, he⟩ | ⟨e1, e2, he⟩
      · have HE2 := Lib.hid he
        clear he
        go_wp2_with fail
        refine (HW.out _ (by decide)).mono ?_
        rintro e w1 ⟨rfl, hm1, b1, k1⟩
        go_wp2
        go_roundw
        case rel => exact ⟨k + 1, by omega, by go_num, hm1.bytes (by rw [HE.out, HE2.out, List.append_assoc]), ⟨HNX.out.1.trans b1, HNX.out.2.trans k1⟩⟩
        case measure => simp [intOf] <;> omega
      · have HE2 := Lib.hid he
        clear he
        go_wp2_with fail
        refine (HW.out _ (by decide)).mono ?_
        rintro e w1 ⟨rfl, hm1, b1, k1⟩
        go_wp2
        go_roundw
        case rel => exact ⟨k + 1, by omega, by go_num, hm1.bytes (by rw [HE.out, HE2.out, List.append_assoc]), ⟨HNX.out.1.trans b1, HNX.out.2.trans k1⟩⟩
        case measure => simp [intOf] <;> omega
      · have HE2 := Lib.hid he
        clear he
        go_wp2
        go_region_with (first | (go_at_call 88; refine (HC.out _).mono ?_; rintro e w2 ⟨rfl, h2, b2, k2⟩))
        go_wp2
        go_roundw
        case rel => exact ⟨k + 1, by omega, by go_num, h2.bytes (by rw [HE.out, HE2.out, List.append_assoc]), ⟨(Below.drew HNX.out.1).trans b2, HNX.out.2.drew.trans k2⟩⟩
        case measure => simp [intOf] <;> omega
    · obtain rfl : k = s.size := by omega
      have HM := Lib.hid (hm.bytes (l' := l ++ escL s.data.toList) (by rw [List.take_of_length_le (by simp)]))
      clear hm
      go_wp2
      go_end0
      exact ⟨rfl, HM.out, hnx⟩

set_option maxHeartbeats 2000000 in
set_option maxRecDepth 100000 in
theorem impl_RunsMarkup (a : Option Addr) (c : Nat) (xs : List RunV) (w : World) (hr : RdG ERun w a xs) (hl : xs.length ≤ 1048576) (ht : txs xs xs.length ≤ 1048576) (hi : ∀ k, k < xs.length → (Lit.int .i64 (xs.getD k zRun).m).wf = true) :
    Calls Try.prog 28 #[.slice a xs.length c] w fun e w' => e = .returned (.string ⟨(markup xs).toArray⟩) ∧ Below w.heap.size w w' := by
  have HT := Lib.hid (fun k (h : k ≤ xs.length) => Nat.le_trans (txs_le xs h) ht)
  have HR := Lib.hid hr
  have HI := Lib.hid (fun k (h : k ≤ xs.length) => (by
    cases k with
    | zero => simp [wasAt]
    | succ k => exact wf_i64 (hi k h) : -9223372036854775808 ≤ wasAt xs k ∧ wasAt xs k < 9223372036854775808))
  clear ht hr hi
  have HN := Lib.hid (MW.new w)
  go_enter Try.func28, Try.ntmps28
  go_wp2
  go_loopw [8] (fun i wr => ∃ k : Nat, k ≤ xs.length ∧ i = .int .i64 k ∧ MW w.heap.size w.heap.size (wasAt xs k) (body xs k) wr ∧ Below w.heap.size w wr) (fun i _ => xs.length - (intOf i).toNat)
  case atStart => exact ⟨0, Nat.zero_le _, rfl, HN.out, (Below.refl _ _).alloc (Nat.le_refl _) _⟩
  case round =>
    obtain ⟨k, hk, rfl, hm, hnx⟩ := hrel
    have HX := Lib.hid (show (body xs k).length ≤ 33554432 by have h1 := body_len xs k; have h2 := HT.out k hk; omega)
    by_cases hlt : k < xs.length
    · rcases HR.out with h0 | ⟨b, off, rfl, hc⟩
      · rw [h0] at hlt
        cases hlt
      obtain ⟨x, hx⟩ : ∃ x, x = xs.getD k zRun := ⟨_, rfl⟩
      have HRg := Lib.hid (by rw [hx]; exact rangeAt_below (hc k hlt) hnx (rangeAt_ltG ERun (hc k hlt)) : wr.rangeAt b (off + k * 2) (ERun.L x))
      have hw1 : wasAt xs (k + 1) = x.m := by rw [hx]; rfl
      have hsz : x.tx.size ≤ 1048576 := by
        have h1 := HT.out (k + 1) hlt
        rw [show txs xs (k + 1) = txs xs k + (xs.getD k zRun).tx.size from rfl, ← hx] at h1
        omega
      have hbody : body xs (k + 1) = body xs k ++ tags (wasAt xs k) x.m ++ escL x.tx.data.toList := by rw [body, hw1, hx]
      have hi1 := HI.out k hk
      have hi2 := HI.out (k + 1) hlt
      rw [hw1] at hi2
      have HB := Lib.hid hbody
      have HW := Lib.hid hw1
      have hz := SB.lt hm
      have hm1 := hm.below ((Below.refl _ _).alloc (Nat.le_refl _) (.cells #[.int .i64 x.m, .string x.tx] 82))
      have HS := Lib.hid (setMarks w.heap.size w.heap.size (wasAt xs k) x.m (body xs k) _ hi1 hi2 hm1 (by have := HX.out; omega) (by simp; omega))
      have HTL := Lib.hid (show (body xs k ++ tags (wasAt xs k) x.m).length ≤ 900000000 by have h1 := HX.out; have h2 := tags_len (wasAt xs k) x.m; rw [List.length_append]; omega)
      have hbox : (wr.alloc (.cells #[.int .i64 x.m, .string x.tx] 82)).heap[wr.heap.size]? = some (.cells #[.int .i64 x.m, .string x.tx] 82 (0, 0)) := heap_alloc_new wr _
      have HBX := Lib.hid hbox
      have HNX := Lib.hid (hnx.alloc (by omega) (.cells #[.int .i64 x.m, .string x.tx] 82))
      clear hm hm1 hbody hw1 hi1 hi2 hx hc hbox hnx
      go_wp2_with (refine load_iRun rfl _ rfl rfl HRg.out ?_)
      refine HS.out.mono ?_
      rintro e w1 ⟨rfl, hm2, b1, k1⟩
      have hbk := k1 _ _ HBX.out (by simp; omega) (by intro c fz h; injection h with _ h2 _; revert h2; decide)
      have c1 : w1.cell? ⟨wr.heap.size, 1, none⟩ = some (.string x.tx) := by rw [Lib.cell_of_heap hbk]; rfl
      have HX2 := Lib.hid (writeText w.heap.size w.heap.size x.m _ x.tx w1 hsz hm2 HTL.out (by have h1 := b1.size; simp at h1; omega))
      have HB1 := Lib.hid (HNX.out.trans b1)
      clear hm2 b1 k1 hbk
      go_wp2_with fail
      refine HX2.out.mono ?_
      rintro e w2 ⟨rfl, hm3, b2, _⟩
      go_wp2
      go_roundw
      case rel => exact ⟨k + 1, by omega, by go_num, by rw [HW.out]; exact hm3.bytes HB.out.symm, HB1.out.trans b2⟩
      case measure => simp [intOf] <;> omega
    · obtain rfl : k = xs.length := by omega
      have hz := SB.lt hm
      have HS := Lib.hid (setMarks w.heap.size w.heap.size (wasAt xs xs.length) 0 (body xs xs.length) wr (HI.out _ (Nat.le_refl _)) (by omega) hm (by have := HX.out; omega) (by omega))
      have HNX := Lib.hid hnx
      clear hm hnx
      go_wp2_with fail
      refine HS.out.mono ?_
      rintro e w1 ⟨rfl, hm2, b1, _⟩
      have HG := Lib.hid (stringW 0 w.heap.size w.heap.size _ w1 hm2 (by have := b1.size; omega))
      have HB1 := Lib.hid (HNX.out.trans b1)
      clear hm2 b1
      go_wp2_with fail
      refine HG.out.mono ?_
      rintro e w2 ⟨rfl, b2⟩
      go_wp2
      go_ret
      exact ⟨rfl, HB1.out.trans b2⟩

end Go.Proofs.Ytmhflifaeplalaa.RmB
