/-
  DrawRunsText and DrawRunsMarkup: a new slice of at most five runs with short texts, whatever the bytes. No condition.
-/
import Derived.Test.YtmhflifaeplalaaRnM
import Derived.Test.YtmhflifaeplalaaK4
import Derived.Outline
namespace Go.Proofs.Ytmhflifaeplalaa.RnA
open Go.RowKit Go.Proofs.Ytmhflifaeplalaa.Base Go.Proofs.Ytmhflifaeplalaa.GsA Go.Proofs.Ytmhflifaeplalaa.GrB Go.Proofs.Ytmhflifaeplalaa.RtA Go.Proofs.Ytmhflifaeplalaa.RdA Go.Proofs.Ytmhflifaeplalaa.RdB Go.Proofs.Ytmhflifaeplalaa.RdC Go.Proofs.Ytmhflifaeplalaa.RdD
set_option linter.unusedVariables false

/-- of gives one of the texts. -/
theorem of (n R : Nat) (a : Option Addr) (cap p : Nat) (zs : List Int) (w : World) (h : RS n w R a cap p zs) (hp : p ≤ 1000000) (g L : Nat) (xs : Nat → ByteArray)
    (hg : ∀ i, i < L → w.cell? ⟨g, i, none⟩ = some (.string (xs i))) (hgR : g ≠ R) (hgw : g < w.heap.size) (hL : 1 ≤ L) (hL2 : L ≤ 1000) :
    Calls Try.prog 89 #[.pointer (some ⟨R, 0, none⟩), .slice (some ⟨g, 0, none⟩) L L] w fun e w' => (∃ i, i < L ∧ e = .returned (.string (xs i))) ∧ RS n w' R a cap (p + 1) zs ∧ Wr R w w' := by
  have HP := Lib.hid (pickS n R a cap p L zs w h hp hL (by omega))
  have HG := Lib.hid hg
  clear hg h
  go_enter Try.func89, Try.ntmps89
  go_wp2_with fail
  refine HP.out.mono ?_
  rintro e w1 ⟨⟨v, hv, rfl⟩, hs, hw⟩
  have hc : w1.cell? ⟨g, v, none⟩ = some (.string (xs v)) := (hw.cell hgw hgR).trans (HG.out v hv)
  have hv0 : (0 : Int) ≤ (v : Int) := by omega
  have hv1 : (v : Int) < (L : Int) := by omega
  go_wp2
  go_ret
  exact ⟨⟨v, hv, rfl⟩, hs, hw⟩

def OwnsR (w : World) (lo : Nat) (v : Value) (xs : List RunV) : Prop := w.ownsRow lo 82 2 v xs.length (flat ERun xs)
theorem ownsR_empty (w : World) (lo : Nat) (hl : lo ≤ w.heap.size) : OwnsR (w.alloc (.cells #[] 82)) lo (.slice (some ⟨w.heap.size, 0, none⟩) 0 0) [] :=
  ⟨rfl, .inr ⟨w.heap.size, 0, #[], rfl, hl, heap_alloc_new _ _, Nat.le_refl _, Nat.zero_le _, rfl, rfl⟩⟩
theorem OwnsR.wr {R lo : Nat} {w w' : World} {v : Value} {xs : List RunV} (h : OwnsR w lo v xs) (hw : Wr R w w') (hR : R < lo) : OwnsR w' lo v xs := by
  unfold OwnsR at h ⊢
  refine h.kept (row := some R) ⟨hw.os, hw.tape, hw.output, hw.size, fun k hk hne => hw.block k hk (fun e => hne (by rw [e]))⟩ ?_
  rcases h.2 with ⟨hv, _⟩ | ⟨g, cap, cur, hv, hb, _⟩
  · left; rw [hv]; rfl
  · right
    rw [hv]
    simp only [Value.ownBlock, ne_eq, Option.some.injEq]
    omega
theorem newsR (w0 : World) (x : RunV) : ∀ j u, (LRun x)[j]? = some u → (w0.alloc (.cells #[.int .i64 x.m, .string x.tx] 82)).cell? ((⟨w0.heap.size, 0, none⟩ : Addr).add j) = some u := by
  intro j u hu
  rw [Addr.add_mid, Nat.zero_add, World.cell?_alloc_at _ _ _ _ rfl]
  rw [← hu]
  show ((LRun x).toArray)[j]? = (LRun x)[j]?
  simp
/-- append of one run that lies in a new block. -/
theorem appendR {ops : Array Oper} {rest : List Oper} {op : Oper} {a : Act} {w0 : World} {Q : Exit → Act → World → Prop} (hgd : op.guard = none) (s x : Operand)
    (ho : op.op = .call { callee := .builtin .append, args := #[s, x], argTypes := #[43, 43] }) {lo : Nat} {v : Value} {xs : List RunV} {y : RunV} {c : Nat}
    (hs : a.eval s = v) (hx : a.eval x = .slice (some ⟨w0.heap.size, 0, none⟩) 1 c) (hown : OwnsR w0 lo v xs) (hlen : xs.length ≤ 1048576) (hlo : lo ≤ w0.heap.size)
    (k : ∀ v' w', OwnsR w' lo v' (xs ++ [y]) → Below lo w0 w' → lo ≤ w'.heap.size → wpList Try.prog ops Q rest (a.put op.dst v') w') :
    wpList Try.prog ops Q (op :: rest) a (w0.alloc (.cells #[.int .i64 y.m, .string y.tx] 82)) := by
  obtain ⟨i0, hi, hz0, hz1, hz2⟩ := info_parts info_Run
  refine wpList_append_own _ hgd s x 43 ho lo 82 i0 _ 2 24 Try.underlying43 hi hz0 hz1 hz2 rfl (by omega) v xs.length (flat ERun xs) hs (World.ownsRow.alloc hown _) ⟨w0.heap.size, 0, none⟩ 1 c (LRun y) hx rfl (newsR w0 y) ?_ ?_ ?_ ?_ ?_
  · exact ERun.one y
  · unfold maxLen; omega
  · omega
  · simp; omega
  · intro v' w' h1 h2 _
    refine k v' w' ?_ ((((Below.refl lo w0).alloc hlo _)).grown h2 (by simp; omega) (fun k hk => ?_)) (Nat.le_trans hlo (Nat.le_trans (by simp) h2.size))
    · unfold OwnsR
      rw [List.length_append, flat_append, flat_one]
      exact h1
    · exact (World.ownsRow.lt (show w0.ownsRow lo 82 2 v xs.length (flat ERun xs) from hown) k hk).1

/-- Few runs, their marks below 8, their texts short. -/
def Few (m : Nat) (xs : List RunV) : Prop := xs.length ≤ m ∧ ∀ k, k < xs.length → ((xs.getD k zRun).tx.size ≤ 8 ∧ 0 ≤ (xs.getD k zRun).m ∧ (xs.getD k zRun).m < 8)
theorem few_snoc {m : Nat} {xs : List RunV} (h : Few m xs) {y : RunV} (ht : y.tx.size ≤ 8) (h0 : 0 ≤ y.m) (h1 : y.m < 8) : Few (m + 1) (xs ++ [y]) := by
  refine ⟨by simp; exact h.1, fun k hk => ?_⟩
  simp only [List.length_append, List.length_singleton] at hk
  rcases Nat.lt_or_ge k xs.length with h2 | h2
  · rw [List.getD_eq_getElem?_getD, List.getElem?_append_left h2, ← List.getD_eq_getElem?_getD]
    exact h.2 k h2
  · obtain rfl : k = xs.length := by omega
    rw [List.getD_eq_getElem?_getD, List.getElem?_append_right (Nat.le_refl _), Nat.sub_self]
    exact ⟨ht, h0, h1⟩
/-- What is drawn. -/
def DrawnR (w : World) (e : Ending) (w' : World) : Prop := (∃ v xs, e = .returned v ∧ OwnsR w' w.heap.size v xs ∧ Few 5 xs) ∧ Below w.heap.size w w'

set_option maxRecDepth 100000 in
set_option maxHeartbeats 4000000 in
theorem drawRunsText (a : Option Addr) (cap : Nat) (zs0 : List Int) (w : World) (rx : RdB w a zs0) (hx : zs0.length ≤ cap) :
    Calls Try.prog 63 #[.slice a zs0.length cap] w (DrawnR w) := by
  have HN := Lib.hid (newReader a cap zs0 w rx hx)
  clear rx
  go_enter Try.func63, Try.ntmps63
  go_wp2_with fail
  refine HN.out.mono ?_
  rintro e w1 ⟨rfl, ⟨a1, c1, zs, hs⟩, b1, hz⟩
  have HE := Lib.hid (ownsR_empty w1 w1.heap.size (Nat.le_refl _))
  have bE := (Below.refl w1.heap.size w1).alloc (Nat.le_refl _) (.cells #[] 82)
  have HS := Lib.hid (hs.below (bE.mono (by omega)))
  have HB := Lib.hid (b1.trans (bE.mono b1.size))
  have zE := bE.size
  have HZE := Lib.hid zE
  clear hs b1 bE HN zE
  go_wp2_with fail
  refine (pickS _ _ _ _ _ 6 _ _ HS.out (by omega) (by omega) (by omega)).mono ?_
  rintro e w2 ⟨⟨N, hN, rfl⟩, hs2, hw2⟩
  have HS2 := Lib.hid hs2
  have HO2 := Lib.hid (OwnsR.wr HE.out hw2 (by omega))
  have HB2 := Lib.hid (HB.out.trans (hw2.below HB.out.size (Nat.le_refl _)))
  have z2 : w1.heap.size ≤ w2.heap.size := Nat.le_trans HZE.out hw2.size
  clear hs2 hw2 HS HE HB HZE
  go_wp2
  go_loopw [4, 5] (fun v i wr => ∃ (k m : Nat) (xs : List RunV), k + m ≤ 5 ∧ i = .int .i64 k ∧ OwnsR wr w1.heap.size v xs ∧ Few m xs ∧ RS (w.heap.size + 1) wr w.heap.size a1 c1 (1 + 2 * m) zs ∧ Below w.heap.size w wr ∧ w1.heap.size ≤ wr.heap.size) (fun _ i _ => (intOf i).toNat)
  case atStart => exact ⟨N, 0, [], by omega, rfl, HO2.out, ⟨Nat.le_refl _, fun k hk => by cases hk⟩, HS2.out, HB2.out, z2⟩
  case round =>
    obtain ⟨k, m, xs, hkm, rfl, hown, hfew, hrs, hnx, hzr⟩ := hrel
    have HO := Lib.hid hown
    have HF := Lib.hid hfew
    have HR := Lib.hid hrs
    have HX := Lib.hid hnx
    have hlen := hfew.1
    clear hown hfew hrs hnx HS2 HO2 HB2 z2
    by_cases hk : k = 0
    · have hk0 : ¬ (0 : Int) < (k : Int) := by omega
      clear hk
      go_wp2
      go_ret
      exact ⟨⟨_, xs, rfl, by
        have h := HO.out
        refine ⟨h.1, ?_⟩
        rcases h.2 with h2 | ⟨g, cp, cur, hv, hb, h2⟩
        · exact .inl h2
        · exact .inr ⟨g, cp, cur, hv, by omega, h2⟩, Nat.le_trans HF.out.1 (by omega), HF.out.2⟩, HX.out⟩
    · have hk0 : (0 : Int) < (k : Int) := by omega
      go_wp2_with fail
      refine (pickS _ _ _ _ _ 8 _ _ HR.out (by omega) (by omega) (by omega)).mono ?_
      rintro e w3 ⟨⟨mk, hmk, rfl⟩, hs3, hw3⟩
      have HO3 := Lib.hid (OwnsR.wr HO.out hw3 (by omega))
      have HX3 := Lib.hid (HX.out.trans (hw3.below HX.out.size (Nat.le_refl _)))
      have z3 : w1.heap.size ≤ w3.heap.size := Nat.le_trans hzr hw3.size
      have HS3 := Lib.hid hs3
      clear hs3 hw3 HO HR HX
      go_wp2_with fail
      refine (of _ _ _ _ _ _ _ (HS3.out.below (((Below.refl _ _).alloc (Nat.le_refl _) _).mono (show w.heap.size + 1 ≤ w3.heap.size by omega))) (by omega) w3.heap.size 5 (fun i => [(⟨#[97]⟩ : ByteArray), ⟨#[98, 99]⟩, ⟨#[60]⟩, ⟨#[38, 120]⟩, ⟨#[100, 32, 101]⟩].getD i ⟨#[]⟩) ?_ (by omega) (by simp) (by omega) (by omega)).mono ?_
      · intro i hi
        rw [World.cell?_alloc_at _ _ _ _ rfl]
        obtain rfl | rfl | rfl | rfl | rfl : i = 0 ∨ i = 1 ∨ i = 2 ∨ i = 3 ∨ i = 4 := by omega
        all_goals rfl
      rintro e w4 ⟨⟨i, hi, rfl⟩, hs4, hw4⟩
      have ht : ([(⟨#[97]⟩ : ByteArray), ⟨#[98, 99]⟩, ⟨#[60]⟩, ⟨#[38, 120]⟩, ⟨#[100, 32, 101]⟩].getD i ⟨#[]⟩).size ≤ 8 := by
        obtain rfl | rfl | rfl | rfl | rfl : i = 0 ∨ i = 1 ∨ i = 2 ∨ i = 3 ∨ i = 4 := by omega
        all_goals decide
      generalize ([(⟨#[97]⟩ : ByteArray), ⟨#[98, 99]⟩, ⟨#[60]⟩, ⟨#[38, 120]⟩, ⟨#[100, 32, 101]⟩].getD i ⟨#[]⟩) = t at ht
      have W4 := ((Wr.refl w.heap.size w3).alloc (.cells #[.string ⟨#[97]⟩, .string ⟨#[98, 99]⟩, .string ⟨#[60]⟩, .string ⟨#[38, 120]⟩, .string ⟨#[100, 32, 101]⟩] 9)).trans hw4
      have HO4 := Lib.hid (OwnsR.wr HO3.out W4 (by omega))
      have HX4 := Lib.hid (HX3.out.trans (W4.below HX3.out.size (Nat.le_refl _)))
      have z4 : w1.heap.size ≤ w4.heap.size := Nat.le_trans z3 W4.size
      have HS4 := Lib.hid hs4
      have HFS := Lib.hid (few_snoc HF.out (y := ⟨(mk : Int), t⟩) ht (by show (0 : Int) ≤ (mk : Int); omega) (by show (mk : Int) < 8; omega))
      clear hs4 hw4 W4 HO3 HX3 HS3 z3 hi HF ht
      go_wp2_with (first | ((with_reducible refine appendR (y := ⟨(mk : Int), t⟩) rfl _ _ rfl rfl rfl HO4.out (by omega) z4 ?_); intro v5 w5 hown5 hb5 hz5))
      go_roundw
      case rel => exact ⟨k - 1, m + 1, xs ++ [⟨(mk : Int), t⟩], by omega, by congr 1; omega, hown5, HFS.out, HS4.out.below (hb5.mono (by omega)), HX4.out.trans (hb5.mono (by omega)), by omega⟩
      case measure => simp [intOf]; omega

theorem drawRunsMarkup (a : Option Addr) (cap : Nat) (zs0 : List Int) (w : World) (rx : RdB w a zs0) (hx : zs0.length ≤ cap) :
    Calls Try.prog 29 #[.slice a zs0.length cap] w (DrawnR w) := by
  have H := Lib.hid (drawRunsText a cap zs0 w rx hx)
  clear rx
  go_enter Try.func29, Try.ntmps29
  go_wp2_with fail
  refine H.out.mono ?_
  rintro e w1 ⟨⟨v, xs, rfl, h1, h2⟩, h3⟩
  go_wp2
  go_ret
  exact ⟨⟨v, xs, rfl, h1, h2⟩, h3⟩

end Go.Proofs.Ytmhflifaeplalaa.RnA
