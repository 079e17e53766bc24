/-
  The reader: pickOfKind gives some stamp, and writes nothing that was there but the reader. For every reader whose position is at most 999000 and every slice that reads as a list of at most 2^20 operations.
-/
import Derived.Test.YtlogpbejfifgdaaGreatK4
import Derived.Test.YtlogpbejfifgdaaGreatK5
import Derived.Outline
namespace Go.Proofs.YtlogpbejfifgdaaGreat.RgA
open Go.RowKit Go.Proofs.YtlogpbejfifgdaaGreat.Base Go.Proofs.YtlogpbejfifgdaaGreat.OpA Go.Proofs.YtlogpbejfifgdaaGreat.OpB Go.Proofs.YtlogpbejfifgdaaGreat.LgA Go.Proofs.YtlogpbejfifgdaaGreat.LgB Go.Proofs.YtlogpbejfifgdaaGreat.LgF Go.Proofs.YtlogpbejfifgdaaGreat.LgP Go.Proofs.YtlogpbejfifgdaaGreat.RdA Go.Proofs.YtlogpbejfifgdaaGreat.RdB Go.Proofs.YtlogpbejfifgdaaGreat.RdC
set_option linter.unusedVariables false

def stL (x : Int × Int) : List Value := [.int .i64 x.1, .int .i64 x.2]
def flatS (ss : List (Int × Int)) : List Value := ss.flatMap stL
theorem flatS_len (ss : List (Int × Int)) : (flatS ss).length = ss.length * 2 := by
  induction ss with
  | nil => rfl
  | cons x r ih => simp [flatS, stL] at ih ⊢; omega
theorem flatS_append (a b : List (Int × Int)) : flatS (a ++ b) = flatS a ++ flatS b := by simp [flatS]
theorem flatS_one (x : Int × Int) : flatS [x] = stL x := by simp [flatS]
theorem flatS_get : ∀ (ss : List (Int × Int)) (k : Nat), k < ss.length → (flatS ss)[k * 2]? = some (.int .i64 (ss.getD k (0, 0)).1) ∧ (flatS ss)[k * 2 + 1]? = some (.int .i64 (ss.getD k (0, 0)).2)
  | [], k, h => by simp at h
  | x :: r, 0, h => by simp [flatS, stL]
  | x :: r, k + 1, h => by
    have ih := flatS_get r k (by simpa using h)
    rw [show (k + 1) * 2 = k * 2 + 1 + 1 by omega]
    simp only [flatS, List.flatMap_cons, stL, List.cons_append, List.nil_append, List.getElem?_cons_succ] at ih ⊢
    simpa using ih
/-- The slice value v is of the call's own (from block lo on) and holds the stamps ss. -/
def OwnsS (w : World) (lo : Nat) (v : Value) (ss : List (Int × Int)) : Prop := w.ownsRow lo 37 2 v ss.length (flatS ss)
theorem ownsS_empty (w : World) (lo : Nat) (hl : lo ≤ w.heap.size) : OwnsS (w.alloc (.cells #[] 37)) lo (.slice (some ⟨w.heap.size, 0, none⟩) 0 0) [] :=
  ⟨rfl, .inr ⟨w.heap.size, 0, #[], rfl, hl, heap_alloc_new _ _, Nat.le_refl _, Nat.zero_le _, rfl, rfl⟩⟩
/-- Where it lies. -/
theorem ownsS_at {w : World} {lo : Nat} {v : Value} {ss : List (Int × Int)} (h : OwnsS w lo v ss) (h0 : 0 < ss.length) :
    ∃ g c, v = .slice (some ⟨g, 0, none⟩) ss.length c ∧ ss.length ≤ c ∧ lo ≤ g ∧ g < w.heap.size ∧ ∀ i, i < ss.length → w.cell? ⟨g, i * 2, none⟩ = some (.int .i64 (ss.getD i (0, 0)).1) ∧ w.cell? ⟨g, i * 2 + 1, none⟩ = some (.int .i64 (ss.getD i (0, 0)).2) := by
  rcases h.2 with ⟨rfl, hz⟩ | ⟨g, cap, cur, rfl, hb, hh, hn, hm, hs, ht⟩
  · omega
  · refine ⟨g, cap, rfl, hn, hb, (Array.getElem?_eq_some_iff.1 hh).1, fun i hi => ?_⟩
    obtain ⟨e1, e2⟩ := flatS_get ss i hi
    rw [← ht, List.getElem?_take_of_lt (by omega), Array.getElem?_toList] at e1 e2
    simp only [World.cell?, hh]
    exact ⟨e1, e2⟩
theorem info_st : (Tryz.prog.info? 37).map (fun i => (i.zero, i.size, i.bytes)) = some (some (.agg #[.int .i64 0, .int .i64 0]), 2, 16) := by kernel_rfl
/-- append of one stamp that lies in a new block. -/
theorem appendS {ops : Array Oper} {rest : List Oper} {op : Oper} {a : Act} {w0 : World} {Q : Exit → Act → World → Prop} (hgd : op.guard = none) (s x : Operand)
    (ho : op.op = .call { callee := .builtin .append, args := #[s, x], argTypes := #[110, 110] }) {lo : Nat} {v : Value} {ss : List (Int × Int)} {y z : Int} {c : Nat}
    (hs : a.eval s = v) (hx : a.eval x = .slice (some ⟨w0.heap.size, 0, none⟩) 1 c) (hown : OwnsS w0 lo v ss) (hlen : ss.length ≤ 1048576) (hlo : lo ≤ w0.heap.size)
    (k : ∀ v' w', OwnsS w' lo v' (ss ++ [(y, z)]) → Below lo w0 w' → lo ≤ w'.heap.size → wpList Tryz.prog ops Q rest (a.put op.dst v') w') :
    wpList Tryz.prog ops Q (op :: rest) a (w0.alloc (.cells #[.int .i64 y, .int .i64 z] 37)) := by
  obtain ⟨i0, hi, hz0, hz1, hz2⟩ := info_parts info_st
  refine wpList_append_own _ hgd s x 110 ho lo 37 i0 _ 2 16 Tryz.underlying110 hi hz0 hz1 hz2 rfl (by omega) v ss.length (flatS ss) hs (World.ownsRow.alloc hown _) ⟨w0.heap.size, 0, none⟩ 1 c (stL (y, z)) hx rfl ?_ ?_ ?_ ?_ ?_ ?_
  · intro j u hu
    rw [Addr.add_mid, Nat.zero_add, World.cell?_alloc_at _ _ _ _ rfl]
    rw [← hu]
    show ((stL (y, z)).toArray)[j]? = (stL (y, z))[j]?
    simp
  · intro u hu
    simp only [stL, List.mem_cons, List.not_mem_nil, or_false] at hu
    rcases hu with rfl | rfl <;> rfl
  · unfold maxLen; omega
  · omega
  · simp; omega
  · intro v' w' h1 h2 _
    refine k v' w' ?_ ((((Below.refl lo w0).alloc hlo _)).grown h2 (by simp; omega) (fun k hk => ?_)) (Nat.le_trans hlo (Nat.le_trans (by simp) h2.size))
    · unfold OwnsS
      rw [List.length_append, flatS_append, flatS_one]
      exact h1
    · exact (World.ownsRow.lt (show w0.ownsRow lo 37 2 v ss.length (flatS ss) from hown) k hk).1

end Go.Proofs.YtlogpbejfifgdaaGreat.RgA

/-
  The reader: pickOfKind gives some stamp, and writes nothing that was there but the reader. For every reader whose position is at most 999000 and every slice that reads as a list of at most 2^20 operations.
-/
namespace Go.Proofs.YtlogpbejfifgdaaGreat.RgB
open Go.RowKit Go.Proofs.YtlogpbejfifgdaaGreat.Base Go.Proofs.YtlogpbejfifgdaaGreat.OpA Go.Proofs.YtlogpbejfifgdaaGreat.OpB Go.Proofs.YtlogpbejfifgdaaGreat.LgA Go.Proofs.YtlogpbejfifgdaaGreat.LgB Go.Proofs.YtlogpbejfifgdaaGreat.LgF Go.Proofs.YtlogpbejfifgdaaGreat.LgP Go.Proofs.YtlogpbejfifgdaaGreat.RdA Go.Proofs.YtlogpbejfifgdaaGreat.RdB Go.Proofs.YtlogpbejfifgdaaGreat.RdC Go.Proofs.YtlogpbejfifgdaaGreat.RgA
set_option linter.unusedVariables false

/-- The stamp x is the ID of one of the operations. -/
def Ided (os : List OpV) (x : Int × Int) : Prop := ∃ m, m < os.length ∧ (os.getD m zop).i = x.1 ∧ (os.getD m zop).j = x.2
/-- What the call does: the stamp returned is zero or an operation's. -/
def DrawsId (n R : Nat) (a : Option Addr) (cap q : Nat) (zs : List Int) (os : List OpV) (w : World) (e : Ending) (w' : World) : Prop :=
  (∃ s t : Int, e = .returned (.agg #[.int .i64 s, .int .i64 t]) ∧ ((s = 0 ∧ t = 0) ∨ Ided os (s, t))) ∧ (∃ p', p' ≤ q ∧ RS n w' R a cap p' zs) ∧ Wr R w w'
theorem getD_mem {ss : List (Int × Int)} {i : Nat} (h : i < ss.length) : ss.getD i (0, 0) ∈ ss := by
  rw [List.getD_eq_getElem?_getD, List.getElem?_eq_getElem h]
  exact List.getElem_mem h

set_option maxRecDepth 100000 in
set_option maxHeartbeats 2000000 in
theorem pickOfKind (n R : Nat) (a : Option Addr) (cap p : Nat) (zs : List Int) (w : World) (h : RS n w R a cap p zs) (hp : p ≤ 999000) (hn : n ≤ w.heap.size)
    (A : Option Addr) (c : Nat) (os : List OpV) (kd : Int) (hr : RdO w A os) (hl : os.length ≤ 1000000) :
    Calls Tryz.prog 65 #[.pointer (some ⟨R, 0, none⟩), .slice A os.length c, .int .i64 kd] w (DrawsId n R a cap (p + 2) zs os w) := by
  have hR : R < n := h.2.1
  have H := Lib.hid h
  have HA := Lib.hid hr
  have S0 := Lib.hid (Res.new w 37)
  have HE := Lib.hid (ownsS_empty (w.alloc (.cells #[.int .i64 0, .int .i64 0] 37)) (w.heap.size + 1) (by simp))
  clear h hr
  go_enter Tryz.func65, Tryz.ntmps65
  go_wp2
  go_loopw [7, 8] (fun s i wr => ∃ k : Nat, k ≤ os.length ∧ i = .int .i64 k ∧ (∃ ss : List (Int × Int), ss.length ≤ k ∧ OwnsS wr (w.heap.size + 1) s ss ∧ Hid (∀ x ∈ ss, Ided os x)) ∧ Below (w.heap.size + 1) (w.alloc (.cells #[.int .i64 0, .int .i64 0] 37)) wr ∧ w.heap.size + 1 ≤ wr.heap.size) (fun _ i _ => os.length - (intOf i).toNat)
  case atStart => exact ⟨0, Nat.zero_le _, rfl, ⟨[], Nat.le_refl _, by simpa using HE.out, fun x hx => by cases hx⟩, (Below.refl _ _).alloc (by simp) _, by simp⟩
  case round =>
    obtain ⟨k, hk, rfl, ⟨ss, hss, hown, hid⟩, hnx, hsz⟩ := hrel
    have hB : Below w.heap.size w wr := ((Below.refl w.heap.size w).alloc (Nat.le_refl _) _).trans (hnx.mono (by omega))
    by_cases hlt : k < os.length
    · rcases HA.out with h0 | ⟨b, off, rfl, hcc⟩
      · rw [h0] at hlt
        cases hlt
      obtain ⟨o, ho⟩ : ∃ o, o = os.getD k zop := ⟨_, rfl⟩
      have hrr := (by rw [ho]; exact rangeAt_below (hcc k hlt) hB (rangeAt_lt (hcc k hlt)) : wr.rangeAt b (off + k * 12) (opL o))
      obtain ⟨q0, q1, q2, _, _, _, _, _, _, _, _, _⟩ := c12 hrr
      have HOW := Lib.hid hown
      have HID := Lib.hid (show Ided os (o.i, o.j) from ⟨k, hlt, by rw [ho], by rw [ho]⟩)
      clear ho hrr hown hcc
      by_cases e : o.k = kd
      · have e1 : (o.k == kd) = true := by simp [e]
        clear e
        go_wp2_with (with_reducible refine appendS rfl _ _ rfl rfl rfl HOW.out (by omega) hsz ?_; intro v1 w2 hown2 hb2 hz2)
        go_roundw
        case rel => exact ⟨k + 1, by omega, by go_num, ⟨_, by simp; omega, hown2, fun x hx => by
          rcases List.mem_append.1 hx with h | h
          · exact hid.out x h
          · rw [List.mem_singleton] at h; rw [h]; exact HID.out⟩, hnx.trans hb2, hz2⟩
        case measure => simp [intOf]; omega
      · have e1 : (o.k == kd) = false := by simp [e]
        clear e
        go_wp2
        go_roundw
        case rel => exact ⟨k + 1, by omega, by go_num, ⟨ss, by omega, HOW.out, hid⟩, hnx, hsz⟩
        case measure => simp [intOf]; omega
    · obtain rfl : k = os.length := by omega
      have S1 := S0.out.wr (R := w.heap.size + 1) (W' := wr) ⟨hnx.os, hnx.tape, hnx.output, by simpa using hsz, fun i hi hne => hnx.block i (by simpa using hi)⟩ (by omega)
      obtain ⟨hz1, c10, c11, f10, f11⟩ := id S1
      have HRS := Lib.hid (H.out.below (hB.mono hn))
      have W1 : Wr R w wr := .of_below hB
      have HW1 := Lib.hid W1
      clear W1
      by_cases h0 : ss.length = 0
      · rcases hown.2 with ⟨rfl, _⟩ | ⟨g, cap', cur, rfl, hb, hh, hnn, _⟩
        · go_wp2
          refine bodyPost_ret (v := .agg #[.int .i64 0, .int .i64 0]) (by simp [results, Tryz.results65, go_sem, c10, c11]) rfl ⟨⟨_, _, rfl, .inl ⟨rfl, rfl⟩⟩, ⟨p, by omega, (HRS.out.setNew hn _).setNew hn _⟩, (HW1.out.setNew (Nat.le_refl _) _).setNew (Nat.le_refl _) _⟩
        · rw [h0]
          go_wp2
          refine bodyPost_ret (v := .agg #[.int .i64 0, .int .i64 0]) (by simp [results, Tryz.results65, go_sem, c10, c11]) rfl ⟨⟨_, _, rfl, .inl ⟨rfl, rfl⟩⟩, ⟨p, by omega, (HRS.out.setNew hn _).setNew hn _⟩, (HW1.out.setNew (Nat.le_refl _) _).setNew (Nat.le_refl _) _⟩
      · obtain ⟨g, cg, rfl, hlc, hgl, hgs, hcell⟩ := ownsS_at hown (by omega)
        have HC := Lib.hid hcell
        have e0 : ((ss.length : Int) == 0) = false := by rw [beq_eq_false_iff_ne]; omega
        clear hcell hown
        go_wp2_with fail
        refine (pickS n R a cap p 2 zs _ HRS.out (by omega) (by omega) (by omega)).mono ?_
        rintro e w2 ⟨⟨m, hm, rfl⟩, hs2, hw2⟩
        have S2 := S1.wr hw2 (by omega)
        have HW2 := Lib.hid (HW1.out.trans hw2)
        have HC2 := Lib.hid (fun i (hi : i < ss.length) => And.intro ((hw2.cell hgs (by omega) (o := i * 2)).trans (HC.out i hi).1) ((hw2.cell hgs (by omega) (o := i * 2 + 1)).trans (HC.out i hi).2))
        have hgs2 : g < w2.heap.size := Nat.lt_of_lt_of_le hgs hw2.size
        clear hw2 c10 c11 f10 f11 hz1
        obtain ⟨hz2, c20, c21, f20, f21⟩ := id S2
        have HS2 := Lib.hid hs2
        clear hs2
        obtain rfl | rfl : m = 0 ∨ m = 1 := by omega
        · obtain ⟨t, ht⟩ : ∃ t, ss.length = t + 1 := ⟨ss.length - 1, by omega⟩
          obtain ⟨d0, d1⟩ := HC2.out t (by omega)
          have hs1 : ((ss.length : Int) - 1) = (t : Int) := by omega
          have ht0 : (0 : Int) ≤ (t : Int) := by omega
          have ht1 : (t : Int) < (ss.length : Int) := by omega
          have hi := hid.out _ (getD_mem (show t < ss.length by omega))
          obtain ⟨⟨u1, u2⟩, hu⟩ : ∃ u, ss.getD t (0, 0) = u := ⟨_, rfl⟩
          rw [hu] at d0 d1 hi
          have HI := Lib.hid hi
          clear hi hu
          go_wp2
          refine bodyPost_ret (v := .agg #[.int .i64 u1, .int .i64 u2]) (by simp [results, Tryz.results65, go_sem, c20, c21]) rfl ⟨⟨_, _, rfl, .inr HI.out⟩, ⟨p + 1, by omega, (HS2.out.setNew hn _).setNew hn _⟩, (HW2.out.setNew (Nat.le_refl _) _).setNew (Nat.le_refl _) _⟩
        · go_wp2_with fail
          refine (pickS n R a cap (p + 1) ss.length zs _ HS2.out (by omega) (by omega) (by omega)).mono ?_
          rintro e w3 ⟨⟨m, hm, rfl⟩, hs3, hw3⟩
          have S3 := S2.wr hw3 (by omega)
          have HW3 := Lib.hid (HW2.out.trans hw3)
          have d0 := (hw3.cell hgs2 (by omega) (o := m * 2)).trans (HC2.out m hm).1
          have d1 := (hw3.cell hgs2 (by omega) (o := m * 2 + 1)).trans (HC2.out m hm).2
          clear hw3 c20 c21 f20 f21 hz2
          obtain ⟨hz3, c30, c31, f30, f31⟩ := id S3
          have HS3 := Lib.hid hs3
          clear hs3
          have ht0 : (0 : Int) ≤ (m : Int) := by omega
          have ht1 : (m : Int) < (ss.length : Int) := by omega
          have hi := hid.out _ (getD_mem hm)
          obtain ⟨⟨u1, u2⟩, hu⟩ : ∃ u, ss.getD m (0, 0) = u := ⟨_, rfl⟩
          rw [hu] at d0 d1 hi
          have HI := Lib.hid hi
          clear hi hu
          go_wp2
          refine bodyPost_ret (v := .agg #[.int .i64 u1, .int .i64 u2]) (by simp [results, Tryz.results65, go_sem, c30, c31]) rfl ⟨⟨_, _, rfl, .inr HI.out⟩, ⟨p + 1 + 1, by omega, (HS3.out.setNew hn _).setNew hn _⟩, (HW3.out.setNew (Nat.le_refl _) _).setNew (Nat.le_refl _) _⟩

end Go.Proofs.YtlogpbejfifgdaaGreat.RgB

/-
  The reader: of gives one of the texts. And boxes of one operation: a store into a field, the whole read.
-/
namespace Go.Proofs.YtlogpbejfifgdaaGreat.RgC
open Go.RowKit Go.Proofs.YtlogpbejfifgdaaGreat.Base Go.Proofs.YtlogpbejfifgdaaGreat.OpA Go.Proofs.YtlogpbejfifgdaaGreat.OpB Go.Proofs.YtlogpbejfifgdaaGreat.LgA Go.Proofs.YtlogpbejfifgdaaGreat.LgB Go.Proofs.YtlogpbejfifgdaaGreat.LgC Go.Proofs.YtlogpbejfifgdaaGreat.LgN Go.Proofs.YtlogpbejfifgdaaGreat.RdA Go.Proofs.YtlogpbejfifgdaaGreat.RdB Go.Proofs.YtlogpbejfifgdaaGreat.RdC
set_option linter.unusedVariables false

theorem of (n R : Nat) (a : Option Addr) (cap p : Nat) (zs : List Int) (w : World) (h : RS n w R a cap p zs) (hp : p ≤ 1000000) (g L : Nat) (xs : Nat → ByteArray)
    (hg : ∀ i, i < L → w.cell? ⟨g, i, none⟩ = some (.string (xs i))) (hgR : g ≠ R) (hgw : g < w.heap.size) (hL : 1 ≤ L) (hL2 : L ≤ 1000) :
    Calls Tryz.prog 66 #[.pointer (some ⟨R, 0, none⟩), .slice (some ⟨g, 0, none⟩) L L] w fun e w' => (∃ i, i < L ∧ e = .returned (.string (xs i))) ∧ RS n w' R a cap (p + 1) zs ∧ Wr R w w' := by
  have HP := Lib.hid (pickS n R a cap p L zs w h hp hL (by omega))
  have HG := Lib.hid hg
  clear hg h
  go_enter Tryz.func66, Tryz.ntmps66
  go_wp2_with fail
  refine HP.out.mono ?_
  rintro e w1 ⟨⟨v, hv, rfl⟩, hs, hw⟩
  have hc : w1.cell? ⟨g, v, none⟩ = some (.string (xs v)) := (hw.cell hgw hgR).trans (HG.out v hv)
  have hv0 : (0 : Int) ≤ (v : Int) := by omega
  have hv1 : (v : Int) < (L : Int) := by omega
  go_wp2
  go_ret
  exact ⟨⟨v, hv, rfl⟩, hs, hw⟩

/-- Block k is one operation's own box, which holds o. -/
def Box (w : World) (k : Nat) (o : OpV) : Prop := OwnO w k 1 1 (fun _ => o)
theorem Box.range {w : World} {k : Nat} {o : OpV} (h : Box w k o) : w.rangeAt k 0 (opL o) := by simpa using OwnO.range h (k := 0) (by omega)
theorem Box.lt {w : World} {k : Nat} {o : OpV} (h : Box w k o) : k < w.heap.size := OwnO.lt h
theorem Box.grown {w w' : World} {k : Nat} {o : OpV} {r : Option Nat} (h : Box w k o) (hb : w.grownBy w' r) (hne : r ≠ some k) : Box w' k o := OwnO.grown h hb hne
theorem Box.wr {w w' : World} {k R : Nat} {o : OpV} (h : Box w k o) (hw : Wr R w w') (hne : k ≠ R) : Box w' k o := OwnO.of_block h (hw.block k (OwnO.lt h) hne)
theorem Box.there {w : World} {k : Nat} {o : OpV} (h : Box w k o) (j m : Nat) (hj : j + m ≤ 12) : w.there k j m := by
  intro i hi
  have := OwnO.there h (k := 0) (by omega) (j + i) (by omega)
  simpa using this
theorem box_of {w : World} {k : Nat} {o : OpV} {g : Nat → Value} (h : w.rowIs k 39 12 g) (e : ∀ i, i < 12 → g i = (opL o).getD i undef) : Box w k o :=
  ⟨g, h, Nat.le_refl _, fun i hi j hj => by
    have : i = 0 := by omega
    subst this
    rw [show 0 * 12 + j = j by omega]
    exact e j hj⟩
theorem Box.row {w : World} {k : Nat} {o : OpV} (h : Box w k o) : ∃ g : Nat → Value, w.rowIs k 39 12 g ∧ ∀ i, i < 12 → g i = (opL o).getD i undef := by
  obtain ⟨g, h1, _, h3⟩ := h
  refine ⟨g, h1, fun i hi => ?_⟩
  have := h3 0 (by omega) i hi
  simpa using this
/-- A new box. -/
theorem box_new (w : World) (o : OpV) : Box (w.alloc (.cells #[.int .i64 o.i, .int .i64 o.j, .int .i64 o.k, .int .i64 o.ts, .int .i64 o.ta, .int .i64 o.fs, .int .i64 o.fa, .int .i64 o.ns, .int .i64 o.na, .int .i64 o.v, .bool o.en, .string o.tx] 39)) w.heap.size o := by
  refine box_of (g := fun i => (opL o).getD i undef) ⟨_, heap_alloc_new _ _, rfl, fun i hi => ?_⟩ fun _ _ => rfl
  show ((opL o).toArray)[i]? = some ((opL o).getD i undef)
  rw [List.getElem?_toArray, List.getD_eq_getElem?_getD, List.getElem?_eq_getElem (by simpa [opL_len] using hi)]
  rfl
/-- A store of one cell. -/
theorem storeB1 {ops : Array Oper} {rest : List Oper} {op : Oper} {a : Act} {w : World} {Q : Exit → Act → World → Prop} (hgd : op.guard = none) (T : TypeId) (x y : Operand) (ho : op.op = .store T x y)
    {k j : Nat} {v : Value} {o : OpV} (o' : OpV) (hx : a.eval x = .pointer (some ⟨k, j, none⟩)) (hy : a.eval y = v) (h : Box w k o) (h1 : v.oneCell' = true) (hsz : (Tryz.prog.info? T).map (·.size) = some 1) (hj : j < 12) (e : opL o' = (opL o).set j v)
    (K : ∀ w', Box w' k o' → w.grownBy w' (some k) → wpList Tryz.prog ops Q rest (a.put op.dst undef) w') : wpList Tryz.prog ops Q (op :: rest) a w :=
  wpList_plain hgd fun _ hK => by
    obtain ⟨g, hr, hg⟩ := h.row
    unfold Oper.wp execOp
    simp only [ho, hx, hy, Instr.storeAt, Instr.sureAddr, Sem.run_bind, Sem.run_pure, Result.andThen_ok, run_storeVar_cell (P := Tryz.prog) w k j T v h1 (by rw [hr.cell hj]; rfl) (hr.frozen j) hsz]
    refine hK _ _ (K _ (box_of (hr.set j v) fun i hi => ?_) (grownBy_setCell _ _ _ _))
    rw [e, List.getD_eq_getElem?_getD, List.getElem?_set]
    by_cases hij : i = j
    · subst hij
      simp [opL_len, hi]
    · simp only [hij, if_false, Ne.symm hij, hg i hi, List.getD_eq_getElem?_getD]
/-- A store of a stamp. -/
theorem storeB2 {ops : Array Oper} {rest : List Oper} {op : Oper} {a : Act} {w : World} {Q : Exit → Act → World → Prop} (hgd : op.guard = none) (x y : Operand) (ho : op.op = .store 37 x y)
    {k j : Nat} {s t : Int} {o : OpV} (o' : OpV) (hx : a.eval x = .pointer (some ⟨k, j, none⟩)) (hy : a.eval y = .agg #[.int .i64 s, .int .i64 t]) (h : Box w k o) (hj : j + 2 ≤ 12) (e : opL o' = ((opL o).set j (.int .i64 s)).set (j + 1) (.int .i64 t))
    (K : ∀ w', Box w' k o' → w.grownBy w' (some k) → wpList Tryz.prog ops Q rest (a.put op.dst undef) w') : wpList Tryz.prog ops Q (op :: rest) a w := by
  obtain ⟨g, hr, hg⟩ := h.row
  refine wpList_store_mid hgd 37 x y ho k j _ hx hy (h.there j 2 hj) (by kernel_rfl) (by simp [Value.oneCell']) (K _ ?_ ?_)
  · refine box_of (rowIs_setCells [.int .i64 s, .int .i64 t] j w g hr) fun i hi => ?_
    rw [e]
    simp only [List.getD_eq_getElem?_getD, List.getElem?_set]
    by_cases h1 : i = j
    · subst h1
      rw [if_pos ⟨Nat.le_refl _, by simp⟩, if_neg (by omega), if_pos rfl]
      simp [opL_len, hi]
    · by_cases h2 : i = j + 1
      · subst h2
        rw [if_pos ⟨by omega, by simp⟩, if_pos rfl]
        simp [opL_len, hi]
      · rw [if_neg (by simp; omega), if_neg (by omega), if_neg (by omega), hg i hi, List.getD_eq_getElem?_getD]
  · exact (grownBy_trans (grownBy_setCell w k j _) (grownBy_setCell _ k (j + 1) _))

end Go.Proofs.YtlogpbejfifgdaaGreat.RgC

/-
  findOp of the model: it gives a place in the list, or -1 where no operation has that ID. For every slice that reads as a list of at most 2^20 operations.
-/
namespace Go.Proofs.YtlogpbejfifgdaaGreat.RgD
open Go.RowKit Go.Proofs.YtlogpbejfifgdaaGreat.Base Go.Proofs.YtlogpbejfifgdaaGreat.OpA Go.Proofs.YtlogpbejfifgdaaGreat.OpB Go.Proofs.YtlogpbejfifgdaaGreat.LgA Go.Proofs.YtlogpbejfifgdaaGreat.LgB Go.Proofs.YtlogpbejfifgdaaGreat.LgF Go.Proofs.YtlogpbejfifgdaaGreat.LgP Go.Proofs.YtlogpbejfifgdaaGreat.RgB
set_option linter.unusedVariables false
attribute [local go_sem ↓] Go.wp_at_zero Go.wp_at_succ
attribute [local irreducible] Go.wpQuiet

theorem not_ided {os : List OpV} {s t : Int} (h : ∀ m, m < os.length → ¬ ((os.getD m zop).i = s ∧ (os.getD m zop).j = t)) : ¬ Ided os (s, t) := by
  rintro ⟨m, hm, h1, h2⟩
  exact h m hm ⟨h1, h2⟩
theorem all_succ {os : List OpV} {s t : Int} {k : Nat} (h : ∀ m, m < k → ¬ ((os.getD m zop).i = s ∧ (os.getD m zop).j = t)) (h2 : ¬ ((os.getD k zop).i = s ∧ (os.getD k zop).j = t)) : ∀ m, m < k + 1 → ¬ ((os.getD m zop).i = s ∧ (os.getD m zop).j = t) := by
  intro m hm
  by_cases e : m = k
  · subst e; exact h2
  · exact h m (by omega)

set_option maxRecDepth 100000 in
set_option maxHeartbeats 2000000 in
theorem findOp (A : Option Addr) (c : Nat) (os : List OpV) (s t : Int) (w : World) (hr : RdO w A os) (hl : os.length ≤ 1048576) :
    Calls Tryz.prog 57 #[.slice A os.length c, .agg #[.int .i64 s, .int .i64 t]] w fun e w' => (∃ r : Int, e = .returned (.int .i64 r) ∧ ((0 ≤ r ∧ r < os.length) ∨ (r = -1 ∧ ¬ Ided os (s, t)))) ∧ Below w.heap.size w w' := by
  have HA := Lib.hid hr
  clear hr
  go_enter Tryz.func57, Tryz.ntmps57
  go_wp2
  go_loopw [5] (fun i wr => ∃ k : Nat, k ≤ os.length ∧ i = .int .i64 k ∧ Hid (∀ m, m < k → ¬ ((os.getD m zop).i = s ∧ (os.getD m zop).j = t)) ∧ Below w.heap.size w wr ∧ wr.cell? ⟨w.heap.size, 0, none⟩ = some (.int .i64 s) ∧ wr.cell? ⟨w.heap.size, 1, none⟩ = some (.int .i64 t)) (fun i _ => os.length - (intOf i).toNat)
  case atStart => exact ⟨0, Nat.zero_le _, rfl, fun m hm => absurd hm (by omega), (Below.refl _ _).alloc (Nat.le_refl _) _, by simp [go_sem], by simp [go_sem]⟩
  case round =>
    obtain ⟨k, hkn, rfl, hall, hnx, hc0, hc1⟩ := hrel
    by_cases hlt : k < os.length
    · rcases HA.out with h0 | ⟨b, off, rfl, hcc⟩
      · rw [h0] at hlt
        cases hlt
      obtain ⟨q, hq⟩ : ∃ q, q = os.getD k zop := ⟨_, rfl⟩
      have HR := Lib.hid (by rw [hq]; exact rangeAt_below (hcc k hlt) hnx (rangeAt_lt (hcc k hlt)) : wr.rangeAt b (off + k * 12) (opL q))
      have HQ := Lib.hid hq
      have H0 := Lib.hid hc0
      have H1 := Lib.hid hc1
      have hlw : w.heap.size < wr.heap.size := World.block_lt_of_cell? wr _ hc0
      clear hq hcc hc0 hc1
      have hk0 : (0 : Int) ≤ (k : Int) := Int.natCast_nonneg _
      have hk1 : (k : Int) < (os.length : Int) := by omega
      rcases (show (q.i = s ∧ q.j = t) ∨ (¬ q.i = s) ∨ (q.i = s ∧ ¬ q.j = t) from by omega) with ⟨e1, e2⟩ | e1 | ⟨e1, e2⟩
      · have g1 : (q.i == s) = true := by simp [e1]
        have g2 : (q.j == t) = true := by simp [e2]
        clear e1 e2
        go_wp2
        refine region_lit (C := fun W => Below wr.heap.size wr W) (by kernel_rfl) (by kernel_rfl) (Below.refl _ _).drew ?_
        repeat (
          first
            | (refine wpQuiet_step (fun K hK => ?_)
               go_simp
               first
                 | (refine hK _ ?_; clear hK K)
                 | (apply Exists.intro
                    refine ⟨fun W hW => ?_, hK _ ?_⟩
                    · have x0 := (hW.cell (p := ⟨w.heap.size, 0, none⟩) hlw).trans H0.out
                      have x1 := (hW.cell (p := ⟨w.heap.size, 1, none⟩) hlw).trans H1.out
                      obtain ⟨q0, q1, q2, q3, q4, q5, q6, q7, q8, q9, q10, q11⟩ := c12 (rangeAt_below HR.out hW (rangeAt_lt HR.out))
                      first
                        | (go_simp; exact rfl)
                        | (go_simp; exact ⟨rfl, rfl⟩)
                    clear hK K)))
        refine wpQuiet_nil ?_
        intro W1 hW1
        have hB := hnx.trans (hW1.mono hnx.size)
        have y0 := (hW1.cell (p := ⟨w.heap.size, 0, none⟩) hlw).trans H0.out
        have y1 := (hW1.cell (p := ⟨w.heap.size, 1, none⟩) hlw).trans H1.out
        go_wp2
        go_ret
        exact ⟨⟨_, rfl, .inl ⟨hk0, hk1⟩⟩, hB⟩
      · have HN := Lib.hid (all_succ hall.out (by rw [← HQ.out]; exact fun h => e1 h.1))
        have g1 : (q.i == s) = false := by simp [e1]
        clear e1
        go_wp2
        refine region_lit (C := fun W => Below wr.heap.size wr W) (by kernel_rfl) (by kernel_rfl) (Below.refl _ _).drew ?_
        repeat (
          first
            | (refine wpQuiet_step (fun K hK => ?_)
               go_simp
               first
                 | (refine hK _ ?_; clear hK K)
                 | (apply Exists.intro
                    refine ⟨fun W hW => ?_, hK _ ?_⟩
                    · have x0 := (hW.cell (p := ⟨w.heap.size, 0, none⟩) hlw).trans H0.out
                      have x1 := (hW.cell (p := ⟨w.heap.size, 1, none⟩) hlw).trans H1.out
                      obtain ⟨q0, q1, q2, q3, q4, q5, q6, q7, q8, q9, q10, q11⟩ := c12 (rangeAt_below HR.out hW (rangeAt_lt HR.out))
                      first
                        | (go_simp; exact rfl)
                        | (go_simp; exact ⟨rfl, rfl⟩)
                    clear hK K)))
        refine wpQuiet_nil ?_
        intro W1 hW1
        have hB := hnx.trans (hW1.mono hnx.size)
        have y0 := (hW1.cell (p := ⟨w.heap.size, 0, none⟩) hlw).trans H0.out
        have y1 := (hW1.cell (p := ⟨w.heap.size, 1, none⟩) hlw).trans H1.out
        go_wp2
        go_roundw
        case rel => exact ⟨k + 1, by omega, by go_num, HN.out, hB, y0, y1⟩
        case measure => simp [intOf]; omega
      · have HN := Lib.hid (all_succ hall.out (by rw [← HQ.out]; exact fun h => e2 h.2))
        have g1 : (q.i == s) = true := by simp [e1]
        have g2 : (q.j == t) = false := by simp [e2]
        clear e1 e2
        go_wp2
        refine region_lit (C := fun W => Below wr.heap.size wr W) (by kernel_rfl) (by kernel_rfl) (Below.refl _ _).drew ?_
        repeat (
          first
            | (refine wpQuiet_step (fun K hK => ?_)
               go_simp
               first
                 | (refine hK _ ?_; clear hK K)
                 | (apply Exists.intro
                    refine ⟨fun W hW => ?_, hK _ ?_⟩
                    · have x0 := (hW.cell (p := ⟨w.heap.size, 0, none⟩) hlw).trans H0.out
                      have x1 := (hW.cell (p := ⟨w.heap.size, 1, none⟩) hlw).trans H1.out
                      obtain ⟨q0, q1, q2, q3, q4, q5, q6, q7, q8, q9, q10, q11⟩ := c12 (rangeAt_below HR.out hW (rangeAt_lt HR.out))
                      first
                        | (go_simp; exact rfl)
                        | (go_simp; exact ⟨rfl, rfl⟩)
                    clear hK K)))
        refine wpQuiet_nil ?_
        intro W1 hW1
        have hB := hnx.trans (hW1.mono hnx.size)
        have y0 := (hW1.cell (p := ⟨w.heap.size, 0, none⟩) hlw).trans H0.out
        have y1 := (hW1.cell (p := ⟨w.heap.size, 1, none⟩) hlw).trans H1.out
        go_wp2
        go_roundw
        case rel => exact ⟨k + 1, by omega, by go_num, HN.out, hB, y0, y1⟩
        case measure => simp [intOf]; omega
    · obtain rfl : k = os.length := by omega
      go_wp2
      go_ret
      exact ⟨⟨_, rfl, .inr ⟨rfl, not_ided hall.out⟩⟩, hnx⟩

end Go.Proofs.YtlogpbejfifgdaaGreat.RgD

/-
  nextEdit of the reader: the class of worlds in which it works, and what its steps do to it: draws, stores into the operation's box. Plain facts and contracts; for readers whose position is at most 900000.
-/
namespace Go.Proofs.YtlogpbejfifgdaaGreat.ReA
open Go.RowKit Go.Proofs.YtlogpbejfifgdaaGreat.Base Go.Proofs.YtlogpbejfifgdaaGreat.OpA Go.Proofs.YtlogpbejfifgdaaGreat.OpB Go.Proofs.YtlogpbejfifgdaaGreat.LgA Go.Proofs.YtlogpbejfifgdaaGreat.LgB Go.Proofs.YtlogpbejfifgdaaGreat.LgC Go.Proofs.YtlogpbejfifgdaaGreat.LgF Go.Proofs.YtlogpbejfifgdaaGreat.LgN Go.Proofs.YtlogpbejfifgdaaGreat.RdA Go.Proofs.YtlogpbejfifgdaaGreat.RdB Go.Proofs.YtlogpbejfifgdaaGreat.RdC Go.Proofs.YtlogpbejfifgdaaGreat.RdD Go.Proofs.YtlogpbejfifgdaaGreat.RgB Go.Proofs.YtlogpbejfifgdaaGreat.RgC Go.Proofs.YtlogpbejfifgdaaGreat.RgD
set_option linter.unusedVariables false

/-- A box of one stamp. -/
def Bx (k : Nat) (s t : Int) (W : World) : Prop := k < W.heap.size ∧ W.cell? ⟨k, 0, none⟩ = some (.int .i64 s) ∧ W.cell? ⟨k, 1, none⟩ = some (.int .i64 t)
theorem Bx.of_block {k : Nat} {s t : Int} {W W' : World} (h : Bx k s t W) (hs : W.heap.size ≤ W'.heap.size) (e : W'.heap[k]? = W.heap[k]?) : Bx k s t W' :=
  ⟨Nat.lt_of_lt_of_le h.1 hs, (World.cell?_of_block (w := W) (a := ⟨k, 0, none⟩) e).trans h.2.1, (World.cell?_of_block (w := W) (a := ⟨k, 1, none⟩) e).trans h.2.2⟩
theorem Bx.new (w : World) (s t : Int) (T : TypeId) : Bx w.heap.size s t (w.alloc (.cells #[.int .i64 s, .int .i64 t] T)) := ⟨by simp, by simp [go_sem], by simp [go_sem]⟩
theorem RdO.of_blocks {w w' : World} {a : Option Addr} {os : List OpV} (h : RdO w a os) (e : ∀ b, blkA a = some b → b < w.heap.size → w'.heap[b]? = w.heap[b]?) : RdO w' a os := by
  rcases h with h | ⟨b, off, rfl, hc⟩
  · exact .inl h
  · exact .inr ⟨b, off, rfl, fun k hk => rangeAt_block (hc k hk) (e b rfl (rangeAt_lt (hc k hk)))⟩

/-- What stays the same while an edit is drawn: the reader, the list, the boxes (of the result, of the operation, of two stamps) and the world in which the call began. -/
structure Ctx where
  n : Nat
  R : Nat
  a : Option Addr
  cap : Nat
  zs : List Int
  A : Option Addr
  os : List OpV
  kr : Nat
  ko : Nat
  kb : Nat
  kc : Nat
  s : Int
  t : Int
  u : Int
  v : Int
  w0 : World
structure Ctx.Ok (X : Ctx) : Prop where
  n : X.n ≤ X.w0.heap.size
  R : X.R < X.n
  kr : X.w0.heap.size ≤ X.kr
  ko : X.w0.heap.size ≤ X.ko
  kb : X.w0.heap.size ≤ X.kb
  kc : X.w0.heap.size ≤ X.kc
  d1 : X.kr ≠ X.ko
  d2 : X.kb ≠ X.ko
  d3 : X.kc ≠ X.ko
  A : X.os ≠ [] → ∀ b, blkA X.A = some b → b < X.w0.heap.size ∧ b ≠ X.R
  len : X.os.length ≤ 1000000
structure NS (X : Ctx) (P : Nat) (w : World) : Prop where
  ok : X.Ok
  rs : ∃ p, p ≤ P ∧ RS X.n w X.R X.a X.cap p X.zs
  o : ∃ o, Box w X.ko o ∧ o.tx.size ≤ 8
  r : Box w X.kr zop
  b : Bx X.kb X.s X.t w
  c : Bx X.kc X.u X.v w
  l : RdO w X.A X.os
  wr : Wr X.R X.w0 w
theorem NS.size {X : Ctx} {P : Nat} {w : World} (h : NS X P w) : X.n ≤ w.heap.size := Nat.le_trans h.ok.n h.wr.size
theorem NS.mono {X : Ctx} {P Q : Nat} {w : World} (h : NS X P w) (hq : P ≤ Q) : NS X Q w := by
  obtain ⟨p, hp, hs⟩ := h.rs
  exact { h with rs := ⟨p, by omega, hs⟩ }
/-- A step that writes nothing that was there but the reader. -/
theorem NS.step {X : Ctx} {P Q : Nat} {w w' : World} (h : NS X P w) (hw : Wr X.R w w') (hs : ∃ p, p ≤ Q ∧ RS X.n w' X.R X.a X.cap p X.zs) : NS X Q w' := by
  have hn := h.ok.n
  have hR := h.ok.R
  refine { ok := h.ok, rs := hs, o := ?_, r := ?_, b := ?_, c := ?_, l := ?_, wr := h.wr.trans hw }
  · obtain ⟨o, ho, ht⟩ := h.o
    exact ⟨o, ho.wr hw (by have := h.ok.ko; omega), ht⟩
  · exact h.r.wr hw (by have := h.ok.kr; omega)
  · exact h.b.of_block hw.size (hw.block _ h.b.1 (by have := h.ok.kb; omega))
  · exact h.c.of_block hw.size (hw.block _ h.c.1 (by have := h.ok.kc; omega))
  · by_cases he : X.os = []
    · exact .inl he
    · exact RdO.of_blocks h.l fun b hb hl => hw.block b hl (h.ok.A he b hb).2
theorem NS.below {X : Ctx} {P : Nat} {w w' : World} (h : NS X P w) (hb : Below w.heap.size w w') : NS X P w' := by
  obtain ⟨p, hp, hs⟩ := h.rs
  exact h.step (.of_below hb) ⟨p, hp, hs.below (hb.mono h.size)⟩
theorem NS.alloc {X : Ctx} {P : Nat} {w : World} (h : NS X P w) (o : Obj) : NS X P (w.alloc o) := h.below ((Below.refl _ _).alloc (Nat.le_refl _) o)
/-- A store into the operation's box. -/
theorem NS.put {X : Ctx} {P : Nat} {w w' : World} (h : NS X P w) (hg : w.grownBy w' (some X.ko)) {o : OpV} (ho : Box w' X.ko o) (ht : o.tx.size ≤ 8) : NS X P w' := by
  have hn := h.ok.n
  have hk := h.ok.ko
  refine { ok := h.ok, rs := ?_, o := ⟨o, ho, ht⟩, r := ?_, b := ?_, c := ?_, l := ?_, wr := ?_ }
  · obtain ⟨p, hp, hs⟩ := h.rs
    exact ⟨p, hp, hs.keep fun k hk' => hg.block k (by have := h.size; omega) (by simp; omega)⟩
  · exact h.r.grown hg (by simp; exact fun e => h.ok.d1 e.symm)
  · exact h.b.of_block hg.size (hg.block _ h.b.1 (by simp; exact h.ok.d2))
  · exact h.c.of_block hg.size (hg.block _ h.c.1 (by simp; exact h.ok.d3))
  · by_cases he : X.os = []
    · exact .inl he
    · exact RdO.of_blocks h.l fun b hb hl => hg.block b hl (by have := (h.ok.A he b hb).1; simp; omega)
  · exact ⟨hg.os.trans h.wr.os, hg.tape.trans h.wr.tape, hg.output.trans h.wr.output, Nat.le_trans h.wr.size hg.size, fun k hk' hne => (hg.block k (Nat.lt_of_lt_of_le hk' h.wr.size) (by simp; omega)).trans (h.wr.block k hk' hne)⟩

theorem set_int (o : OpV) (j : Nat) (hj : j < 10) (z : Int) : ∃ o' : OpV, opL o' = (opL o).set j (.int .i64 z) ∧ o'.tx = o.tx := by
  obtain rfl | rfl | rfl | rfl | rfl | rfl | rfl | rfl | rfl | rfl : j = 0 ∨ j = 1 ∨ j = 2 ∨ j = 3 ∨ j = 4 ∨ j = 5 ∨ j = 6 ∨ j = 7 ∨ j = 8 ∨ j = 9 := by omega
  · exact ⟨{ o with i := z }, rfl, rfl⟩
  · exact ⟨{ o with j := z }, rfl, rfl⟩
  · exact ⟨{ o with k := z }, rfl, rfl⟩
  · exact ⟨{ o with ts := z }, rfl, rfl⟩
  · exact ⟨{ o with ta := z }, rfl, rfl⟩
  · exact ⟨{ o with fs := z }, rfl, rfl⟩
  · exact ⟨{ o with fa := z }, rfl, rfl⟩
  · exact ⟨{ o with ns := z }, rfl, rfl⟩
  · exact ⟨{ o with na := z }, rfl, rfl⟩
  · exact ⟨{ o with v := z }, rfl, rfl⟩
theorem size_int : (Tryz.prog.info? 3).map (·.size) = some 1 := by kernel_rfl
theorem size_bool : (Tryz.prog.info? 4).map (·.size) = some 1 := by kernel_rfl
theorem size_string : (Tryz.prog.info? 9).map (·.size) = some 1 := by kernel_rfl

section
variable {ops : Array Oper} {rest : List Oper} {op : Oper} {a : Act} {w : World} {Q : Exit → Act → World → Prop}
theorem nsInt (hgd : op.guard = none) (x y : Operand) (ho : op.op = .store 3 x y) {X : Ctx} {P j : Nat} {z : Int} (hx : a.eval x = .pointer (some ⟨X.ko, j, none⟩)) (hy : a.eval y = .int .i64 z) (hj : j < 10) (h : NS X P w)
    (K : ∀ w', NS X P w' → wpList Tryz.prog ops Q rest (a.put op.dst undef) w') : wpList Tryz.prog ops Q (op :: rest) a w := by
  obtain ⟨o, hb, ht⟩ := h.o
  obtain ⟨o', e, et⟩ := set_int o j hj z
  exact storeB1 hgd 3 x y ho o' hx hy hb rfl size_int (by omega) e fun w' hb' hg => K w' (h.put hg hb' (by rw [et]; exact ht))
theorem nsBool (hgd : op.guard = none) (x y : Operand) (ho : op.op = .store 4 x y) {X : Ctx} {P : Nat} {z : Bool} (hx : a.eval x = .pointer (some ⟨X.ko, 10, none⟩)) (hy : a.eval y = .bool z) (h : NS X P w)
    (K : ∀ w', NS X P w' → wpList Tryz.prog ops Q rest (a.put op.dst undef) w') : wpList Tryz.prog ops Q (op :: rest) a w := by
  obtain ⟨o, hb, ht⟩ := h.o
  exact storeB1 hgd 4 x y ho { o with en := z } hx hy hb rfl size_bool (by omega) rfl fun w' hb' hg => K w' (h.put hg hb' ht)
theorem nsStr (hgd : op.guard = none) (x y : Operand) (ho : op.op = .store 9 x y) {X : Ctx} {P : Nat} {z : ByteArray} (hx : a.eval x = .pointer (some ⟨X.ko, 11, none⟩)) (hy : a.eval y = .string z) (hz : z.size ≤ 8) (h : NS X P w)
    (K : ∀ w', NS X P w' → wpList Tryz.prog ops Q rest (a.put op.dst undef) w') : wpList Tryz.prog ops Q (op :: rest) a w := by
  obtain ⟨o, hb, ht⟩ := h.o
  exact storeB1 hgd 9 x y ho { o with tx := z } hx hy hb rfl size_string (by omega) rfl fun w' hb' hg => K w' (h.put hg hb' hz)
theorem nsSt (hgd : op.guard = none) (x y : Operand) (ho : op.op = .store 37 x y) {X : Ctx} {P j : Nat} {s t : Int} (hx : a.eval x = .pointer (some ⟨X.ko, j, none⟩)) (hy : a.eval y = .agg #[.int .i64 s, .int .i64 t]) (hj : j < 9) (h : NS X P w)
    (K : ∀ w', NS X P w' → wpList Tryz.prog ops Q rest (a.put op.dst undef) w') : wpList Tryz.prog ops Q (op :: rest) a w := by
  obtain ⟨o, hb, ht⟩ := h.o
  obtain ⟨o', e, et⟩ := set_int o j (by omega) s
  obtain ⟨o'', e', et'⟩ := set_int o' (j + 1) (by omega) t
  exact storeB2 hgd x y ho o'' hx hy hb (by omega) (by rw [e', e]) fun w' hb' hg => K w' (h.put hg hb' (by rw [et', et]; exact ht))
end

theorem size_stamp : (Tryz.prog.info? 37).map (·.size) = some 2 := by kernel_rfl
theorem Bx.range {k : Nat} {s t : Int} {W : World} (h : Bx k s t W) : W.rangeAt k 0 [.int .i64 s, .int .i64 t] := by
  intro j x hj
  match j, hj with
  | 0, hj => simp at hj; subst hj; exact h.2.1
  | 1, hj => simp at hj; subst hj; exact h.2.2
/-- A stamp is read. -/
theorem loadSt {ops : Array Oper} {rest : List Oper} {op : Oper} {a : Act} {w : World} {Q : Exit → Act → World → Prop} (hgd : op.guard = none) (x : Operand) (ho : op.op = .load 37 x) {b o : Nat} {s t : Int}
    (hx : a.eval x = .pointer (some ⟨b, o, none⟩)) (h : w.rangeAt b o [.int .i64 s, .int .i64 t]) (k : wpList Tryz.prog ops Q rest (a.put op.dst (.agg #[.int .i64 s, .int .i64 t])) w) : wpList Tryz.prog ops Q (op :: rest) a w :=
  wpList_load_mid hgd 37 x ho b o hx [.int .i64 s, .int .i64 t] _ h Tryz.underlying37 rfl size_stamp k
/-- The operation is read out of its box. -/
theorem nsLoad {ops : Array Oper} {rest : List Oper} {op : Oper} {a : Act} {w : World} {Q : Exit → Act → World → Prop} (hgd : op.guard = none) (x : Operand) (ho : op.op = .load 39 x) {X : Ctx} {P : Nat} (hx : a.eval x = .pointer (some ⟨X.ko, 0, none⟩)) (h : NS X P w)
    (K : ∀ o : OpV, o.tx.size ≤ 8 → wpList Tryz.prog ops Q rest (a.put op.dst (.agg #[.int .i64 o.i, .int .i64 o.j, .int .i64 o.k, .int .i64 o.ts, .int .i64 o.ta, .int .i64 o.fs, .int .i64 o.fa, .int .i64 o.ns, .int .i64 o.na, .int .i64 o.v, .bool o.en, .string o.tx])) w) : wpList Tryz.prog ops Q (op :: rest) a w := by
  obtain ⟨o, hb, ht⟩ := h.o
  exact loadI hgd x ho hx hb.range (K o ht)
/-- The result goes into its box. -/
theorem nsRes {ops : Array Oper} {rest : List Oper} {op : Oper} {a : Act} {w : World} {Q : Exit → Act → World → Prop} (hgd : op.guard = none) (x y : Operand) (ho : op.op = .store 39 x y) {X : Ctx} {P : Nat} {o : OpV} (hx : a.eval x = .pointer (some ⟨X.kr, 0, none⟩)) (hy : a.eval y = .agg #[.int .i64 o.i, .int .i64 o.j, .int .i64 o.k, .int .i64 o.ts, .int .i64 o.ta, .int .i64 o.fs, .int .i64 o.fa, .int .i64 o.ns, .int .i64 o.na, .int .i64 o.v, .bool o.en, .string o.tx]) (h : NS X P w)
    (K : ∀ w', C12 w' X.kr 0 o → ((∃ p, p ≤ P ∧ RS X.n w' X.R X.a X.cap p X.zs) ∧ Wr X.R X.w0 w') → wpList Tryz.prog ops Q rest (a.put op.dst undef) w') : wpList Tryz.prog ops Q (op :: rest) a w := by
  have hn := h.ok.n
  have hk := h.ok.kr
  refine storeI hgd x y ho hx hy (h.r.there 0 12 (by omega)) (K _ ?_ ⟨?_, ?_⟩)
  · obtain ⟨g, hr, hg⟩ := h.r.row
    have hr2 := rowIs_setCells (opL o) 0 w g hr
    have e : (w.setCells X.kr 0 (opL o)).rangeAt X.kr 0 (opL o) := by
      intro j v hv
      have hj : j < 12 := by
        have := (List.getElem?_eq_some_iff.1 hv).1
        rwa [opL_len] at this
      rw [hr2.cell (i := 0 + j) (by omega), if_pos (by rw [opL_len]; omega), List.getD_eq_getElem?_getD, show 0 + j - 0 = j by omega, hv]
      rfl
    exact c12 e
  · obtain ⟨p, hp, hs⟩ := h.rs
    exact ⟨p, hp, hs.keep fun k hk' => heap_setCells _ k (by omega) _ _ _⟩
  · have hb : Below X.w0.heap.size w (w.setCells X.kr 0 (opL o)) := below_setCells hk _ _ _ (Below.mono (Below.refl w.heap.size w) h.wr.size)
    exact ⟨hb.os.trans h.wr.os, hb.tape.trans h.wr.tape, hb.output.trans h.wr.output, Nat.le_trans h.wr.size hb.size, fun k hk' hne => (heap_setCells _ k (by omega) _ _ _).trans (h.wr.block k hk' hne)⟩

theorem nsPick (X : Ctx) (P m : Nat) (w : World) (h : NS X P w) (hp : P ≤ 900000) (hm : 1 ≤ m) (hm2 : m ≤ 1000000) :
    Calls Tryz.prog 43 #[.pointer (some ⟨X.R, 0, none⟩), .int .i64 m] w fun e w' => (∃ v : Nat, v < m ∧ e = .returned (.int .i64 v)) ∧ NS X (P + 1) w' := by
  obtain ⟨p, hp1, hs⟩ := h.rs
  exact (pickS X.n X.R X.a X.cap p m X.zs w hs (by omega) hm hm2).mono fun e w' ⟨hv, hs', hw⟩ => ⟨hv, h.step hw ⟨p + 1, by omega, hs'⟩⟩
theorem nsPickZ (X : Ctx) (P : Nat) (z : Int) (w : World) (h : NS X P w) (hp : P ≤ 900000) (hm : 1 ≤ z) (hm2 : z ≤ 1000000) :
    Calls Tryz.prog 43 #[.pointer (some ⟨X.R, 0, none⟩), .int .i64 z] w fun e w' => (∃ v : Nat, (v : Int) < z ∧ e = .returned (.int .i64 v)) ∧ NS X (P + 1) w' := by
  have e : z = (z.toNat : Int) := by omega
  have := nsPick X P z.toNat w h hp (by omega) (by omega)
  rw [← e] at this
  exact this.mono fun e w' ⟨⟨v, hv, he⟩, hn⟩ => ⟨⟨v, by omega, he⟩, hn⟩
theorem nsKind (X : Ctx) (P c : Nat) (kd : Int) (w : World) (h : NS X P w) (hp : P ≤ 900000) :
    Calls Tryz.prog 65 #[.pointer (some ⟨X.R, 0, none⟩), .slice X.A X.os.length c, .int .i64 kd] w fun e w' => (∃ s t : Int, e = .returned (.agg #[.int .i64 s, .int .i64 t])) ∧ NS X (P + 2) w' := by
  obtain ⟨p, hp1, hs⟩ := h.rs
  exact (pickOfKind X.n X.R X.a X.cap p X.zs w hs (by omega) h.size X.A c X.os kd h.l h.ok.len).mono fun e w' ⟨⟨s, t, he, _⟩, ⟨p', hp', hs'⟩, hw⟩ => ⟨⟨s, t, he⟩, h.step hw ⟨p', by omega, hs'⟩⟩
theorem nsOne (X : Ctx) (P L : Nat) (cs : Array Value) (T : TypeId) (w : World) (h : NS X P w) (hp : P ≤ 900000) (hL : 1 ≤ L) (hL2 : L ≤ 1000) (hcs : ∃ xs : Nat → Int, ∀ i, i < L → cs[i]? = some (.int .i64 (xs i))) :
    Calls Tryz.prog 44 #[.pointer (some ⟨X.R, 0, none⟩), .slice (some ⟨w.heap.size, 0, none⟩) L L] (w.alloc (.cells cs T)) fun e w' => (∃ v : Int, e = .returned (.int .i64 v)) ∧ NS X (P + 1) w' := by
  obtain ⟨xs, hxs⟩ := hcs
  have h1 := h.alloc (.cells cs T)
  obtain ⟨p, hp1, hs⟩ := h1.rs
  refine (one X.n X.R X.a X.cap p X.zs _ hs (by omega) w.heap.size L xs (fun i hi => ?_) (by have := h.ok.R; have := h.size; omega) (by simp) hL hL2).mono fun e w' ⟨hv, hs', hw⟩ => ⟨hv, h1.step hw ⟨p + 1, by omega, hs'⟩⟩
  rw [World.cell?_alloc_at _ _ _ _ rfl]
  exact hxs i hi
theorem nsOf (X : Ctx) (P L : Nat) (cs : Array Value) (T : TypeId) (w : World) (h : NS X P w) (hp : P ≤ 900000) (hL : 1 ≤ L) (hL2 : L ≤ 1000) (hcs : ∃ xs : Nat → ByteArray, ∀ i, i < L → cs[i]? = some (.string (xs i)) ∧ (xs i).size ≤ 8) :
    Calls Tryz.prog 66 #[.pointer (some ⟨X.R, 0, none⟩), .slice (some ⟨w.heap.size, 0, none⟩) L L] (w.alloc (.cells cs T)) fun e w' => (∃ z : ByteArray, z.size ≤ 8 ∧ e = .returned (.string z)) ∧ NS X (P + 1) w' := by
  obtain ⟨xs, hxs⟩ := hcs
  have h1 := h.alloc (.cells cs T)
  obtain ⟨p, hp1, hs⟩ := h1.rs
  refine (of X.n X.R X.a X.cap p X.zs _ hs (by omega) w.heap.size L xs (fun i hi => ?_) (by have := h.ok.R; have := h.size; omega) (by simp) hL hL2).mono fun e w' ⟨⟨i, hi, he⟩, hs', hw⟩ => ⟨⟨xs i, (hxs i hi).2, he⟩, h1.step hw ⟨p + 1, by omega, hs'⟩⟩
  rw [World.cell?_alloc_at _ _ _ _ rfl]
  exact (hxs i hi).1

theorem NS.elt {X : Ctx} {P : Nat} {w : World} (h : NS X P w) {b off : Nat} (hA : X.A = some ⟨b, off, none⟩) {x : Nat} (hx : x < X.os.length) : w.rangeAt b (off + x * 12) (opL (X.os.getD x zop)) := by
  rcases h.l with h0 | ⟨b', off', e, hc⟩
  · rw [h0] at hx; cases hx
  · rw [hA] at e
    injection e with e
    injection e with e1 e2
    subst e1 e2
    exact hc x hx
theorem sub0 {w : World} {b o : Nat} {q : OpV} (h : w.rangeAt b o (opL q)) : w.rangeAt b o [.int .i64 q.i, .int .i64 q.j] := by
  intro j x hj
  match j, hj with
  | 0, hj => simp at hj; subst hj; exact (c12 h).1
  | 1, hj => simp at hj; subst hj; exact (c12 h).2.1
theorem sub3 {w : World} {b o : Nat} {q : OpV} (h : w.rangeAt b o (opL q)) : w.rangeAt b (o + 3) [.int .i64 q.ts, .int .i64 q.ta] := by
  intro j x hj
  match j, hj with
  | 0, hj => simp at hj; subst hj; exact (c12 h).2.2.2.1
  | 1, hj => simp at hj; subst hj; exact (c12 h).2.2.2.2.1

/-- What an edit that is drawn gives: some operation with a short text. -/
def Edit (n R : Nat) (a : Option Addr) (cap P : Nat) (zs : List Int) (w : World) (e : Ending) (w' : World) : Prop :=
  (∃ o : OpV, e = .returned (.agg #[.int .i64 o.i, .int .i64 o.j, .int .i64 o.k, .int .i64 o.ts, .int .i64 o.ta, .int .i64 o.fs, .int .i64 o.fa, .int .i64 o.ns, .int .i64 o.na, .int .i64 o.v, .bool o.en, .string o.tx]) ∧ o.tx.size ≤ 8) ∧ (∃ p, p ≤ P ∧ RS n w' R a cap p zs) ∧ Wr R w w'

end Go.Proofs.YtlogpbejfifgdaaGreat.ReA
