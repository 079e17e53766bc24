/-
  The walk of the law FnExactRunsMarkup: it returns true at every slice of runs. No condition.
-/
import Derived.Test.YtmhflifaeplalaaRmC
namespace Go.Proofs.Ytmhflifaeplalaa.RmD
open Go.RowKit Go.Proofs.Ytmhflifaeplalaa.Base Go.Proofs.Ytmhflifaeplalaa.GsA Go.Proofs.Ytmhflifaeplalaa.GrB Go.Proofs.Ytmhflifaeplalaa.SbA Go.Proofs.Ytmhflifaeplalaa.RtA Go.Proofs.Ytmhflifaeplalaa.RmM Go.Proofs.Ytmhflifaeplalaa.RmA Go.Proofs.Ytmhflifaeplalaa.RmB Go.Proofs.Ytmhflifaeplalaa.RmC
set_option linter.unusedVariables false

theorem txt_eq {s : ByteArray} {l : List UInt8} (h : s.data.toList = l) : s = ⟨l.toArray⟩ := by
  have : s.data = l.toArray := by rw [← h, Array.toArray_toList]
  cases s
  simpa using this
theorem spec_Markup (a : Option Addr) (c : Nat) (xs : List RunV) (w : World) (hr : RdG ERun w a xs) (hl : xs.length ≤ 1048576) (ht : txs xs xs.length ≤ 1048576) :
    Calls Try.prog 27 #[.slice a xs.length c] w fun e w' => e = .returned (.string ⟨(markup xs).toArray⟩) ∧ Below w.heap.size w w' :=
  (spec_RunsMarkup a c xs w hr hl ht).mono fun e w' ⟨⟨s, he, hs⟩, hb⟩ => ⟨by rw [he, txt_eq hs], hb⟩

theorem walkRunsMarkup (a : Option Addr) (c : Nat) (xs : List RunV) (w : World) (hr : RdG ERun w a xs) (hm : xs.length ≤ maxLen) (ht : ∀ k, k < xs.length → (xs.getD k zRun).tx.size ≤ maxLen) (hi : ∀ k, k < xs.length → (Lit.int .i64 (xs.getD k zRun).m).wf = true) :
    Calls Try.prog 8 #[.slice a xs.length c] w fun e w' => e = .returned (.bool true) ∧ Below w.heap.size w w' := by
  have HZ := Lib.hid (szRunS a c xs 1048576 w hr hm ht (by omega))
  have HR := Lib.hid hr
  have HII := Lib.hid hi
  clear ht hr hm hi
  go_enter Try.func8, Try.ntmps8
  go_wp2_with fail
  refine HZ.out.mono ?_
  rintro e w1 ⟨hz, bel1⟩
  rcases hz with rfl | ⟨left, hl0, hl1, hl2, rfl⟩
  · go_wp2
    go_ret
    exact ⟨rfl, bel1⟩
  · have hl : xs.length ≤ 1048576 := by omega
    have htx : txs xs xs.length ≤ 1048576 := by omega
    have HTX := Lib.hid htx
    clear hl2 htx
    have hz1 := bel1.size
    go_wp2_with fail
    refine (toRunS _ _ xs _ (HR.out.below bel1) hl).mono ?_
    rintro e w2 ⟨b2, rfl, hb2, hown2, bel2⟩
    have hz2 := bel2.size
    have bel02 := bel1.trans (bel2.mono hz1)
    have hcs : (⟨(markup xs).toArray⟩ : ByteArray).size ≤ 33554432 := by have := markup_len xs hl HTX.out; show (markup xs).toArray.size ≤ _; rw [List.size_toArray]; exact this
    have HS := Lib.hid (fun a c w h => spec_Markup a c xs w h hl HTX.out)
    have HI := Lib.hid (fun a c w h => impl_RunsMarkup a c xs w h hl HTX.out HII.out)
    generalize (⟨(markup xs).toArray⟩ : ByteArray) = res at HS HI hcs
    go_wp2_with fail
    refine (HS.out _ _ _ hown2.rd).mono ?_
    rintro e w3 ⟨rfl, bel3⟩
    have hz3 := bel3.size
    have bel03 := bel02.trans (bel3.mono (by omega))
    clear hown2
    go_wp2_with fail
    refine (toRunS _ _ xs _ (HR.out.below bel03) hl).mono ?_
    rintro e w4 ⟨b4, rfl, hb4, hown4, bel4⟩
    have hz4 := bel4.size
    have bel04 := bel03.trans (bel4.mono (by omega))
    go_wp2_with fail
    refine (HI.out _ _ _ hown4.rd).mono ?_
    rintro e w5 ⟨rfl, bel5⟩
    have hz5 := bel5.size
    have bel05 := bel04.trans (bel5.mono (by omega))
    have hown5 := hown4.below bel5
    clear hown4
    go_wp2_with fail
    refine (toRunS _ _ xs _ (HR.out.below bel05) hl).mono ?_
    rintro e w6 ⟨b6, rfl, hb6, hown6, bel6⟩
    have hz6 := bel6.size
    have bel06 := bel05.trans (bel6.mono (by omega))
    have hown5' := hown5.below bel6
    clear hown5
    go_wp2_with fail
    refine (eqRunS _ _ _ _ xs _ hown5'.rd hown6.rd hl).mono ?_
    rintro e w7 ⟨rfl, bel7⟩
    go_wp2
    go_ret
    exact ⟨rfl, bel06.trans (bel7.mono (by omega))⟩

end Go.Proofs.Ytmhflifaeplalaa.RmD
