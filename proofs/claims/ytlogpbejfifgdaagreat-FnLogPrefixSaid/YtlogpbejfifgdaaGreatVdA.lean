/-
  anyVector of the reader: it gives a slice of at most three numbers in new memory, and writes nothing that was there but the reader. For every reader whose position is at most 900000.
-/
import Derived.Test.YtlogpbejfifgdaaGreatK3
import Derived.Test.YtlogpbejfifgdaaGreatK4
import Derived.Outline
namespace Go.Proofs.YtlogpbejfifgdaaGreat.VdA
open Go.RowKit Go.Proofs.YtlogpbejfifgdaaGreat.Base Go.Proofs.YtlogpbejfifgdaaGreat.St Go.Proofs.YtlogpbejfifgdaaGreat.Vec Go.Proofs.YtlogpbejfifgdaaGreat.Row Go.Proofs.YtlogpbejfifgdaaGreat.RowB Go.Proofs.YtlogpbejfifgdaaGreat.RowC Go.Proofs.YtlogpbejfifgdaaGreat.RdA Go.Proofs.YtlogpbejfifgdaaGreat.RdB Go.Proofs.YtlogpbejfifgdaaGreat.RdC
set_option linter.unusedVariables false

/-- The slice value v is of the call's own (from block lo on) and holds the numbers zs. -/
def OwnsI (w : World) (lo : Nat) (v : Value) (zs : List Int) : Prop := w.ownsRow lo 3 1 v zs.length (zs.map (Value.int .i64))
theorem ownsI_empty (w : World) (lo : Nat) (hl : lo ≤ w.heap.size) : OwnsI (w.alloc (.cells #[] 3)) lo (.slice (some ⟨w.heap.size, 0, none⟩) 0 0) [] :=
  ⟨rfl, .inr ⟨w.heap.size, 0, #[], rfl, hl, heap_alloc_new _ _, Nat.le_refl _, Nat.zero_le _, rfl, rfl⟩⟩
theorem wr_grown {R : Nat} {w w' : World} (h : Wr R w w') : w.grownBy w' (some R) := ⟨h.os, h.tape, h.output, h.size, fun k hk hne => h.block k hk (fun e => hne (by rw [e]))⟩
theorem wr_grow {R : Nat} {a b c : World} (h : Wr R a b) (k : Below a.heap.size b c) : Wr R a c := ⟨k.os.trans h.os, k.tape.trans h.tape, k.output.trans h.output, Nat.le_trans h.size k.size, fun i hi hne => (k.block i hi).trans (h.block i hi hne)⟩
theorem OwnsI.wr {R lo : Nat} {w w' : World} {v : Value} {zs : List Int} (h : OwnsI w lo v zs) (hw : Wr R w w') (hR : R < lo) : OwnsI w' lo v zs := by
  unfold OwnsI at h ⊢
  refine h.kept (wr_grown hw) ?_
  rcases h.2 with ⟨hv, _⟩ | ⟨g, cap, cur, hv, hb, _⟩
  · left; rw [hv]; rfl
  · right
    rw [hv]
    simp only [Value.ownBlock, ne_eq, Option.some.injEq]
    omega
theorem newsI (w0 : World) (x : Int) : ∀ j u, [Value.int .i64 x][j]? = some u → (w0.alloc (.cells #[.int .i64 x] 3)).cell? ((⟨w0.heap.size, 0, none⟩ : Addr).add j) = some u := by
  intro j u hu
  rw [Addr.add_mid, Nat.zero_add, World.cell?_alloc_at _ _ _ _ rfl]
  rw [← hu]
  show ([Value.int .i64 x].toArray)[j]? = [Value.int .i64 x][j]?
  simp
/-- append of one number that lies in a new block. -/
theorem appendI {ops : Array Oper} {rest : List Oper} {op : Oper} {a : Act} {w0 : World} {Q : Exit → Act → World → Prop} (hgd : op.guard = none) (s x : Operand)
    (ho : op.op = .call { callee := .builtin .append, args := #[s, x], argTypes := #[25, 25] }) {lo : Nat} {v : Value} {zs : List Int} {y : Int} {c : Nat}
    (hs : a.eval s = v) (hx : a.eval x = .slice (some ⟨w0.heap.size, 0, none⟩) 1 c) (hown : OwnsI w0 lo v zs) (hlen : zs.length ≤ 1048576) (hlo : lo ≤ w0.heap.size)
    (k : ∀ v' w', OwnsI w' lo v' (zs ++ [y]) → Below lo w0 w' → lo ≤ w'.heap.size → wpList Tryz.prog ops Q rest (a.put op.dst v') w') :
    wpList Tryz.prog ops Q (op :: rest) a (w0.alloc (.cells #[.int .i64 y] 3)) := by
  obtain ⟨i0, hi, hz0, hz1, hz2⟩ := info_parts info_int
  refine wpList_append_own _ hgd s x 25 ho lo 3 i0 _ 1 8 Tryz.underlying25 hi hz0 hz1 hz2 rfl (by omega) v zs.length (zs.map (Value.int .i64)) hs (World.ownsRow.alloc hown _) ⟨w0.heap.size, 0, none⟩ 1 c [Value.int .i64 y] hx rfl (newsI w0 y) ?_ ?_ ?_ ?_ ?_
  · intro u hu
    rw [List.mem_singleton] at hu
    subst hu
    rfl
  · unfold maxLen; omega
  · omega
  · simp; omega
  · intro v' w' h1 h2 _
    refine k v' w' ?_ ((((Below.refl lo w0).alloc hlo _)).grown h2 (by simp; omega) (fun k hk => ?_)) (Nat.le_trans hlo (Nat.le_trans (by simp) h2.size))
    · unfold OwnsI
      rw [List.length_append, List.map_append]
      exact h1
    · exact (World.ownsRow.lt (show w0.ownsRow lo 3 1 v zs.length (zs.map (Value.int .i64)) from hown) k hk).1

/-- The slice at A holds the numbers vs, in memory from block lo on. -/
def VR (lo : Nat) (w : World) (A : Option Addr) (vs : List Int) : Prop :=
  vs = [] ∨ ∃ b off, A = some ⟨b, off, none⟩ ∧ lo ≤ b ∧ ∀ i, i < vs.length → w.cell? ⟨b, off + i, none⟩ = some (.int .i64 (vs.getD i 0))
theorem VR.rd {lo : Nat} {w : World} {A : Option Addr} {vs : List Int} (h : VR lo w A vs) : Rd w A vs := by
  rcases h with h | ⟨b, off, ha, _, hc⟩
  · exact .inl h
  · exact .inr ⟨b, off, ha, hc⟩
theorem VR.wr {R lo : Nat} {w w' : World} {A : Option Addr} {vs : List Int} (h : VR lo w A vs) (hw : Wr R w w') (hR : R < lo) : VR lo w' A vs := by
  rcases h with h | ⟨b, off, ha, hl, hc⟩
  · exact .inl h
  · exact .inr ⟨b, off, ha, hl, fun i hi => (hw.cell (k := b) (o := off + i) (World.block_lt_of_cell? w _ (hc i hi)) (by omega)).trans (hc i hi)⟩
theorem VR.below {lo : Nat} {w w' : World} {A : Option Addr} {vs : List Int} (h : VR lo w A vs) (hb : Below w.heap.size w w') : VR lo w' A vs := by
  rcases h with h | ⟨b, off, ha, hl, hc⟩
  · exact .inl h
  · exact .inr ⟨b, off, ha, hl, fun i hi => (hb.cell (World.block_lt_of_cell? w _ (hc i hi))).trans (hc i hi)⟩
theorem VR.lower {lo lo' : Nat} {w : World} {A : Option Addr} {vs : List Int} (h : VR lo w A vs) (hl' : lo' ≤ lo) : VR lo' w A vs := by
  rcases h with h | ⟨b, off, ha, hl, hc⟩
  · exact .inl h
  · exact .inr ⟨b, off, ha, by omega, hc⟩

/-- What a call that draws a vector does. -/
def DrawsV (n R : Nat) (a : Option Addr) (cap q : Nat) (zs : List Int) (w : World) (e : Ending) (w' : World) : Prop :=
  (∃ (A : Option Addr) (c : Nat) (vs : List Int), e = .returned (.slice A vs.length c) ∧ VR w.heap.size w' A vs ∧ vs.length ≤ 3) ∧ (∃ p', p' ≤ q ∧ RS n w' R a cap p' zs) ∧ Wr R w w'

set_option maxRecDepth 100000 in
set_option maxHeartbeats 4000000 in
theorem anyVector (n R : Nat) (a : Option Addr) (cap p : Nat) (zs : List Int) (w : World) (h : RS n w R a cap p zs) (hp : p ≤ 900000) (hn : n ≤ w.heap.size) :
    Calls Tryz.prog 34 #[.pointer (some ⟨R, 0, none⟩)] w (DrawsV n R a cap (p + 6) zs w) := by
  have hR : R < n := h.2.1
  have HE := Lib.hid (ownsI_empty w w.heap.size (Nat.le_refl _))
  have HS := Lib.hid (h.below ((Below.refl n w).alloc hn (.cells #[] 3)))
  have HW := Lib.hid ((Wr.refl R w).alloc (.cells #[] 3))
  clear h
  go_enter Tryz.func34, Tryz.ntmps34
  go_wp2
  go_loopw [3, 4] (fun v i wr => ∃ (k q : Nat) (vs : List Int), k ≤ 3 ∧ i = .int .i64 k ∧ OwnsI wr w.heap.size v vs ∧ Hid (vs.length = k ∧ q = p + k) ∧ RS n wr R a cap q zs ∧ Wr R w wr) (fun _ i _ => 3 - (intOf i).toNat)
  case atStart => exact ⟨0, p, [], by omega, rfl, HE.out, (⟨rfl, rfl⟩ : _ ∧ _), HS.out, HW.out⟩
  case round =>
    obtain ⟨k, q, vs, hk, rfl, hown, hf, hrs, hwr⟩ := hrel
    have hvl : vs.length = k := hf.out.1
    have hq : q = p + k := hf.out.2
    have zw := hwr.size
    have HOW := Lib.hid hown
    have HRS := Lib.hid hrs
    have HWR := Lib.hid hwr
    clear hown hrs hwr
    by_cases hlt : k < 3
    · have hk0 : (0 : Int) ≤ (k : Int) := Int.natCast_nonneg _
      have hk1 : (k : Int) < 3 := by omega
      go_wp2_with fail
      refine (one n R a cap q zs _ (HRS.out.below ((Below.refl n wr).alloc (by omega) _)) (by omega) wr.heap.size 7 (fun i => [0, 1, 3, 6, 9, 14, 99].getD i 0) ?_ (by omega) (by simp) (by omega) (by omega)).mono ?_
      · intro i hi
        rw [World.cell?_alloc_at _ _ _ _ rfl]
        obtain rfl | rfl | rfl | rfl | rfl | rfl | rfl : i = 0 ∨ i = 1 ∨ i = 2 ∨ i = 3 ∨ i = 4 ∨ i = 5 ∨ i = 6 := by omega
        all_goals rfl
      rintro e w3 ⟨⟨x, rfl⟩, hs3, hw3⟩
      have hw30 : Wr R wr w3 := ((Wr.refl R wr).alloc _).trans hw3
      have HO3 := Lib.hid (HOW.out.wr hw30 (by omega))
      have HS3 := Lib.hid hs3
      have HW3 := Lib.hid (HWR.out.trans hw30)
      have hsz : w.heap.size ≤ w3.heap.size := (HWR.out.trans hw30).size
      have hlen : vs.length ≤ 1048576 := by omega
      clear hs3 hw3 hw30
      go_wp2_with (with_reducible refine appendI rfl _ _ rfl rfl rfl HO3.out hlen hsz ?_; intro v4 w4 hown4 hb4 hz4)
      go_roundw
      case rel => exact ⟨k + 1, q + 1, vs ++ [x], by omega, by go_num, hown4, (⟨by simp; omega, by omega⟩ : _ ∧ _), HS3.out.below (hb4.mono hn), wr_grow HW3.out hb4⟩
      case measure => simp [intOf]; omega
    · obtain rfl : k = 3 := by omega
      obtain ⟨A, c, rfl, hrow⟩ := owned HOW.out
      rcases hrow with ⟨_, h0⟩ | ⟨b, rfl, hbl, ow⟩
      · omega
      have HOI := Lib.hid ow
      have HP := Lib.hid (pickS n R a cap q 16 zs wr HRS.out (by omega) (by omega) (by omega))
      clear ow HRS
      rw [hvl]
      go_wp2_with fail
      refine HP.out.mono ?_
      rintro e w3 ⟨⟨m, hm, rfl⟩, hs3, hw3⟩
      have HO3 := Lib.hid (HOI.out.of_block (hw3.block b HOI.out.lt (by omega)))
      have HS3 := Lib.hid hs3
      have HW3 := Lib.hid (HWR.out.trans hw3)
      have z3 := hw3.size
      clear hs3 hw3 HP HOI HWR HOW
      have hcap : 3 ≤ c := by obtain ⟨g, h1, h2, h3⟩ := HO3.out; omega
      rcases (show m = 0 ∨ m = 1 ∨ 2 ≤ m by omega) with rfl | rfl | hm2
      · go_wp2_with fail
        refine (pickS n R a cap (q + 1) 3 zs w3 HS3.out (by omega) (by omega) (by omega)).mono ?_
        rintro e w4 ⟨⟨j, hj, rfl⟩, hs4, hw4⟩
        have HO4 := Lib.hid (HO3.out.of_block (hw4.block b HO3.out.lt (by omega)))
        have HS4 := Lib.hid hs4
        have HW4 := Lib.hid (HW3.out.trans hw4)
        have z4 := hw4.size
        clear hs4 hw4 HS3 HW3 HO3
        go_wp2_with fail
        refine (one n R a cap (q + 1 + 1) zs _ (HS4.out.below ((Below.refl n w4).alloc (by omega) _)) (by omega) w4.heap.size 2 (fun i => [-1, 100].getD i 0) ?_ (by omega) (by simp) (by omega) (by omega)).mono ?_
        · intro i hi
          rw [World.cell?_alloc_at _ _ _ _ rfl]
          obtain rfl | rfl : i = 0 ∨ i = 1 := by omega
          all_goals rfl
        rintro e w5 ⟨⟨x, rfl⟩, hs5, hw5⟩
        have hw50 : Wr R w4 w5 := ((Wr.refl R w4).alloc _).trans hw5
        have o5 := HO4.out.of_block (hw50.block b HO4.out.lt (by omega))
        have HO5 := Lib.hid (o5.set j x)
        have cj := o5.cell (i := j) (by omega)
        have fj := o5.frozen j
        have HS5 := Lib.hid (hs5.setNew (x := ⟨b, j, none⟩) (by show n ≤ b; omega) (.int .i64 x))
        have HW5 := Lib.hid ((HW4.out.trans hw50).setNew (x := ⟨b, j, none⟩) (by show w.heap.size ≤ b; omega) (.int .i64 x))
        clear hs5 hw5 hw50 o5 HO4 HS4 HW4
        have hj0 : (0 : Int) ≤ (j : Int) := Int.natCast_nonneg _
        have hj1 : (j : Int) < 3 := by omega
        go_wp2
        go_ret
        refine ⟨⟨some ⟨b, 0, none⟩, c, vs.set j x, by rw [List.length_set, hvl]; rfl, .inr ⟨b, 0, rfl, hbl, fun i hi => ?_⟩, by rw [List.length_set]; omega⟩, ⟨_, by omega, HS5.out⟩, HW5.out⟩
        rw [List.length_set] at hi
        rw [Nat.zero_add, HO5.out.cell (by omega)]
        by_cases e : i = j
        · subst e
          simp [List.getD_eq_getElem?_getD, hi]
        · simp [List.getD_eq_getElem?_getD, e, Ne.symm e]
      · go_wp2
        go_ret
        refine ⟨⟨some ⟨b, 1, none⟩, c - 1, vs.drop 1, by simp [hvl], .inr ⟨b, 1, rfl, hbl, fun i hi => ?_⟩, by simp; omega⟩, ⟨_, by omega, HS3.out⟩, HW3.out⟩
        rw [List.length_drop] at hi
        rw [HO3.out.cell (i := 1 + i) (by omega)]
        simp [List.getD_eq_getElem?_getD, Nat.add_comm]
      · have q0 : ((m : Int) == 0) = false := by apply beq_false_of_ne; omega
        have q1 : ((m : Int) == 1) = false := by apply beq_false_of_ne; omega
        clear hm hm2
        go_wp2
        go_ret
        refine ⟨⟨some ⟨b, 0, none⟩, c, vs, by rw [hvl]; rfl, .inr ⟨b, 0, rfl, hbl, fun i hi => ?_⟩, by omega⟩, ⟨_, by omega, HS3.out⟩, HW3.out⟩
        rw [Nat.zero_add, HO3.out.cell (by omega)]

end Go.Proofs.YtlogpbejfifgdaaGreat.VdA
