/-
  Networks without logs and packets: the cells of a replica and of a network, boxes, NewNetwork of the model and of the program. No condition.
-/
import Derived.Test.YtdbnflgckcjlcaaGsB
namespace Go.Proofs.Ytdbnflgckcjlcaa.NnA
open Go.RowKit Go.Proofs.Ytdbnflgckcjlcaa.Base Go.Proofs.Ytdbnflgckcjlcaa.GsA Go.Proofs.Ytdbnflgckcjlcaa.GsB
set_option linter.unusedVariables false
attribute [local go_sem ↓] Go.wp_at_zero Go.wp_at_succ

/-- A replica without a log and messages: its author. -/
def LRep (x : Int) : List Value := [.int .i64 x, .slice none 0 0, .slice none 0 0]
def ERep : Elt Int where
  n := 3
  L := LRep
  z := 0
  hn := by omega
  len := fun _ => rfl
  one := by
    intro x u hu
    simp only [LRep, List.mem_cons, List.not_mem_nil, or_false] at hu
    rcases hu with rfl | rfl | rfl <;> rfl
theorem size_Rep : (Try.prog.info? 50).map (·.size) = some 3 := by kernel_rfl
theorem info_Rep : (Try.prog.info? 50).map (fun i => (i.zero, i.size, i.bytes)) = some (some (.agg #[.int .i64 0, .slice none 0 0, .slice none 0 0]), 3, 56) := by kernel_rfl
abbrev DRep : Ty ERep where
  T := 50
  S := 35
  zero := .agg #[.int .i64 0, .slice none 0 0, .slice none 0 0]
  bytes := 56
  und := Try.underlying35
  elem := by kernel_rfl
  info := info_Rep
  hz := rfl
  hs := by omega
theorem sz_reps : (Try.prog.info? 35).map (·.size) = some 1 := by kernel_rfl
theorem sz_int : (Try.prog.info? 3).map (·.size) = some 1 := by kernel_rfl
theorem load_Rep {ops : Array Oper} {rest : List Oper} {op : Oper} {a : Act} {w : World} {Q : Exit → Act → World → Prop} (hgd : op.guard = none) (x : Operand) (ho : op.op = .load 50 x) {b o : Nat} {y : Int}
    (hx : a.eval x = .pointer (some ⟨b, o, none⟩)) (h : w.rangeAt b o (ERep.L y)) (k : wpList Try.prog ops Q rest (a.put op.dst (.agg #[.int .i64 y, .slice none 0 0, .slice none 0 0])) w) : wpList Try.prog ops Q (op :: rest) a w :=
  wpList_load_mid hgd 50 x ho b o hx (LRep y) _ h Try.underlying50 rfl size_Rep k
abbrev CRep (w : World) (b o : Nat) (x : Int) : Prop := w.cell? ⟨b, o, none⟩ = some (.int .i64 x) ∧ w.cell? ⟨b, o + 1, none⟩ = some (.slice none 0 0) ∧ w.cell? ⟨b, o + 2, none⟩ = some (.slice none 0 0)
theorem cRep {w : World} {b o : Nat} {x : Int} (h : w.rangeAt b o (ERep.L x)) : CRep w b o x := ⟨h 0 _ rfl, h 1 _ rfl, h 2 _ rfl⟩

structure NwV where
  ra : Option Addr
  rn : Nat
  rc : Nat
def LNw (x : NwV) : List Value := [.slice x.ra x.rn x.rc, .slice none 0 0]
def zNw : NwV := ⟨none, 0, 0⟩
def ENw : Elt NwV where
  n := 2
  L := LNw
  z := zNw
  hn := by omega
  len := fun _ => rfl
  one := by
    intro x u hu
    simp only [LNw, List.mem_cons, List.not_mem_nil, or_false] at hu
    rcases hu with rfl | rfl <;> rfl
theorem size_Nw : (Try.prog.info? 38).map (·.size) = some 2 := by kernel_rfl
abbrev CNw (w : World) (b o : Nat) (x : NwV) : Prop := w.cell? ⟨b, o, none⟩ = some (.slice x.ra x.rn x.rc) ∧ w.cell? ⟨b, o + 1, none⟩ = some (.slice none 0 0)
theorem cNw {w : World} {b o : Nat} {x : NwV} (h : w.rangeAt b o (ENw.L x)) : CNw w b o x := ⟨h 0 _ rfl, h 1 _ rfl⟩
theorem load_Nw {ops : Array Oper} {rest : List Oper} {op : Oper} {a : Act} {w : World} {Q : Exit → Act → World → Prop} (hgd : op.guard = none) (x : Operand) (ho : op.op = .load 38 x) {b o : Nat} {y : NwV}
    (hx : a.eval x = .pointer (some ⟨b, o, none⟩)) (h : w.rangeAt b o (ENw.L y)) (k : wpList Try.prog ops Q rest (a.put op.dst (.agg #[.slice y.ra y.rn y.rc, .slice none 0 0])) w) : wpList Try.prog ops Q (op :: rest) a w :=
  wpList_load_mid hgd 38 x ho b o hx (LNw y) _ h Try.underlying38 rfl size_Nw k
theorem store_Nw {ops : Array Oper} {rest : List Oper} {op : Oper} {a : Act} {w : World} {Q : Exit → Act → World → Prop} (hgd : op.guard = none) (x y : Operand) (ho : op.op = .store 38 x y) {b o : Nat} {v : NwV}
    (hx : a.eval x = .pointer (some ⟨b, o, none⟩)) (hy : a.eval y = .agg #[.slice v.ra v.rn v.rc, .slice none 0 0]) (h : w.there b o 2) (k : wpList Try.prog ops Q rest (a.put op.dst undef) (w.setCells b o (ENw.L v))) : wpList Try.prog ops Q (op :: rest) a w :=
  wpList_store_mid hgd 38 x y ho b o _ hx hy h size_Nw (by simp [Value.oneCell']) k

/-- A new box. -/
theorem box_newG {α : Type} {E : Elt α} (W : World) (C : Array Value) (T : TypeId) (x : α) (hC : C.toList = E.L x) : OwnG E T (W.alloc (.cells C T)) W.heap.size 1 1 (fun _ => x) := by
  have hs : C.size = E.n := by rw [← Array.length_toList, hC, E.len]
  refine ⟨fun i => (E.L x).getD i undef, ⟨_, heap_alloc_new W _, by rw [hs, Nat.one_mul], fun i hi => ?_⟩, Nat.le_refl _, fun k hk j hj => ?_⟩
  · have hi' : i < C.size := by rw [hs]; rw [Nat.one_mul] at hi; exact hi
    show C[i]? = some ((E.L x).getD i undef)
    rw [← hC, List.getD_eq_getElem?_getD, Array.getElem?_toList, Array.getElem?_eq_getElem hi']
    rfl
  · obtain rfl : k = 0 := by omega
    rw [Nat.zero_mul, Nat.zero_add]
/-- The element in a box. -/
theorem box_at {α : Type} {E : Elt α} {T : TypeId} {W : World} {k : Nat} {x : α} (h : OwnG E T W k 1 1 (fun _ => x)) : W.rangeAt k 0 (E.L x) := by
  have := h.range (k := 0) (by omega)
  rwa [Nat.zero_mul] at this
theorem box_there {α : Type} {E : Elt α} {T : TypeId} {W : World} {k : Nat} {x : α} (h : OwnG E T W k 1 1 (fun _ => x)) : W.there k 0 E.n := by
  have := h.there (k := 0) (by omega) 0 E.n (by omega)
  rwa [Nat.zero_mul, Nat.zero_add] at this
/-- A whole element goes into a box. -/
theorem box_put {α : Type} {E : Elt α} {T : TypeId} {W : World} {k : Nat} {x : α} (h : OwnG E T W k 1 1 (fun _ => x)) (y : α) : OwnG E T (W.setCells k 0 (E.L y)) k 1 1 (fun _ => y) := by
  have := h.put (k := 0) (by omega) y
  rw [Nat.zero_mul] at this
  exact this.congr fun i hi => by rw [if_pos (by omega)]
/-- One cell of an element of a row is written. -/
theorem setF {α : Type} {E : Elt α} {T : TypeId} {w : World} {b c n : Nat} {f : Nat → α} (h : OwnG E T w b c n f) {i j o : Nat} (hi : i < n) (hj : j < E.n) (ho : o = i * E.n + j) (u : Value) (x' : α) (hx : E.L x' = (E.L (f i)).set j u) :
    OwnG E T (w.setCell ⟨b, o, none⟩ u) b c n (fun k => if k = i then x' else f k) := by
  subst ho
  obtain ⟨g, hr, hn, hg⟩ := h
  refine ⟨_, hr.set (i * E.n + j) u, hn, fun k hk m hm => ?_⟩
  show (if k * E.n + m = i * E.n + j then u else g (k * E.n + m)) = (E.L (if k = i then x' else f k)).getD m undef
  by_cases e : k = i
  · subst e
    rw [if_pos rfl, hx]
    by_cases e2 : m = j
    · subst e2
      rw [if_pos rfl, List.getD_eq_getElem?_getD, List.getElem?_set_self (by rw [E.len]; exact hm)]
      rfl
    · rw [if_neg (by omega), hg k hk m hm, List.getD_eq_getElem?_getD, List.getD_eq_getElem?_getD, List.getElem?_set_ne (fun h => e2 h.symm)]
  · rw [if_neg e, if_neg, hg k hk m hm]
    intro h
    rcases Nat.lt_or_gt_of_ne e with h1 | h1
    · have := mul_add_lt h1 hm; omega
    · have h2 : (i + 1) * E.n ≤ k * E.n := Nat.mul_le_mul_right _ h1
      rw [Nat.add_mul] at h2
      omega
/-- The same in a box. -/
theorem box_setF {α : Type} {E : Elt α} {T : TypeId} {w : World} {b : Nat} {x : α} (h : OwnG E T w b 1 1 (fun _ => x)) {j : Nat} (hj : j < E.n) (u : Value) (x' : α) (hx : E.L x' = (E.L x).set j u) :
    OwnG E T (w.setCell ⟨b, j, none⟩ u) b 1 1 (fun _ => x') :=
  (setF h (i := 0) (by omega) hj (by omega) u x' hx).congr fun k hk => by rw [if_pos (by omega)]
theorem setCell_other {w : World} {b o k : Nat} {u : Value} (h : k ≠ b) : (w.setCell ⟨b, o, none⟩ u).heap[k]? = w.heap[k]? := Below.heap_setCell w ⟨b, o, none⟩ u k h
theorem run_store1 {P : Program} (w : World) (b o : Nat) (ty : TypeId) (v : Value) (h1 : v.oneCell' = true) (hc : (w.cell? ⟨b, o, none⟩).isSome = true) (hf : w.frozen? ⟨b, o, none⟩ = false) (hi : (P.info? ty).map (·.size) = some 1) :
    (storeVar ty ⟨b, o, none⟩ v).run P w = .ok () (w.setCell ⟨b, o, none⟩ v) := by
  have := run_storeCells_cells (P := P) b o [v] 0 w (fun j hj => by have : j = 0 := by simpa using hj
                                                                    subst this; exact hc) (fun j hj => by have : j = 0 := by simpa using hj
                                                                                                          subst this; exact hf) (fun x hx => by simp at hx; subst hx; exact h1)
  have hcl : v.cells = #[v] := by cases v <;> first | rfl | cases h1
  cases hq : P.info? ty with
  | none => simp [hq] at hi
  | some i =>
    have hs : i.size = 1 := by simpa [hq] using hi
    simp only [Nat.add_zero] at this
    simp [storeVar, sizeOf, typeInfo, hq, hcl, hs, this, World.setCells]
/-- One cell is written. -/
theorem store1 {ops : Array Oper} {rest : List Oper} {op : Oper} {a : Act} {w : World} {Q : Exit → Act → World → Prop} (hgd : op.guard = none) (T : TypeId) (x y : Operand) (ho : op.op = .store T x y) {b j : Nat} {u : Value}
    (hx : a.eval x = .pointer (some ⟨b, j, none⟩)) (hy : a.eval y = u) (hu : u.oneCell' = true) (hsz : (Try.prog.info? T).map (·.size) = some 1) (h : w.there b j 1)
    (K : ∀ w', w' = w.setCell ⟨b, j, none⟩ u → wpList Try.prog ops Q rest (a.put op.dst undef) w') : wpList Try.prog ops Q (op :: rest) a w :=
  wpList_plain hgd fun _ hK => by
    obtain ⟨h1, h2⟩ := h 0 (by omega)
    unfold Oper.wp execOp
    simp only [ho, hx, hy, Instr.storeAt, Instr.sureAddr, Sem.run_bind, Sem.run_pure, Result.andThen_ok, run_store1 (P := Try.prog) w b j T u hu h1 h2 hsz]
    exact hK _ _ (K _ rfl)
/-- A box that holds a network. -/
abbrev BoxN (w : World) (k : Nat) (x : NwV) : Prop := OwnG ENw 38 w k 1 1 (fun _ => x)
/-- The first authors. -/
def upto (k : Nat) : List Int := (List.range k).map (fun i : Nat => (i : Int))
theorem upto_len (k : Nat) : (upto k).length = k := by simp [upto]
theorem upto_succ (k : Nat) : upto (k + 1) = upto k ++ [(k : Int)] := by simp [upto, List.range_succ]
theorem upto_get {k i : Nat} (h : i < k) : (upto k).getD i 0 = (i : Int) := by
  rw [upto, List.getD_eq_getElem?_getD, List.getElem?_map, List.getElem?_range h]
  rfl

/-- The answer is a network of the first three authors' empty replicas, of the call's own. -/
def GivesN (w : World) (e : Ending) (w' : World) : Prop :=
  ∃ b c, e = .returned (.agg #[.slice (some ⟨b, 0, none⟩) 3 c, .slice none 0 0]) ∧ w.heap.size ≤ b ∧ OwnG ERep DRep.T w' b c 3 (fun i => (upto 3).getD i 0) ∧ Below w.heap.size w w'

/-- What a cell of another block holds does not matter to a slice of the call's own. -/
theorem owns_setCell {α : Type} {E : Elt α} {D : Ty E} {w : World} {lo b o : Nat} {u v : Value} {os : List α} (h : OwnsG D w lo v os) (hb : b < lo) : OwnsG D (w.setCell ⟨b, o, none⟩ u) lo v os := by
  unfold OwnsG at h ⊢
  refine h.kept (row := some b) ⟨rfl, rfl, rfl, by simp, fun k hk hne => Below.heap_setCell w ⟨b, o, none⟩ u k (fun e => hne (by rw [e]))⟩ ?_
  rcases hv : v.ownBlock with _ | k
  · exact .inl rfl
  · refine .inr fun e => ?_
    have := (World.ownsRow.lt (show w.ownsRow lo D.T E.n v os.length (flat E os) from h) k hv).1
    injection e with e
    omega
theorem rowHd {α : Type} {E : Elt α} {D : Ty E} {w : World} {lo : Nat} {v : Value} {os : List α} (h : OwnsG D w lo v os) (h0 : 0 < os.length) : ∃ b c, v = .slice (some ⟨b, 0, none⟩) os.length c ∧ lo ≤ b ∧ os.length ≤ c ∧ OwnG E D.T w b c os.length (fun i => os.getD i E.z) := by
  obtain ⟨a, c, rfl, hr⟩ := h.row
  rcases hr with ⟨_, e⟩ | ⟨b, rfl, hb, ho⟩
  · omega
  · exact ⟨b, c, rfl, hb, ho.le, ho⟩

set_option maxRecDepth 100000 in
set_option maxHeartbeats 2000000 in
theorem spec_NewNetwork (w : World) : Calls Try.prog 18 #[] w (GivesN w) := by
  obtain ⟨w0, hw0⟩ : ∃ w0, w0 = ((w.alloc (.cells #[.slice none 0 0, .slice none 0 0] 38)).alloc (.cells #[.slice none 0 0, .slice none 0 0] 38)) := ⟨_, rfl⟩
  have hz0 : w0.heap.size = w.heap.size + 2 := by rw [hw0]; simp
  have HB0 := Lib.hid (by rw [hw0]; exact (((Below.refl _ _).alloc (Nat.le_refl _) _).alloc (by simp) _) : Below w.heap.size w w0)
  have HBa := Lib.hid (by
    have h1 : BoxN (w.alloc (.cells #[.slice none 0 0, .slice none 0 0] 38)) w.heap.size zNw := box_newG w _ _ zNw rfl
    rw [hw0]
    exact h1.below ((Below.refl _ _).alloc (Nat.le_refl _) _) : BoxN w0 w.heap.size zNw)
  have HBb := Lib.hid (by
    have h1 := box_newG (E := ENw) (w.alloc (.cells #[.slice none 0 0, .slice none 0 0] 38)) #[.slice none 0 0, .slice none 0 0] 38 zNw rfl
    rw [← hw0] at h1
    simpa using h1 : BoxN w0 (w.heap.size + 1) zNw)
  have HN := Lib.hid (show OwnsG DRep w0 (w.heap.size + 2) (.slice none 0 0) (upto 0) from ownsG_nil (D := DRep) w0 (w.heap.size + 2))
  have HZ := Lib.hid hz0
  have HW := Lib.hid hw0
  clear hw0 hz0
  go_enter Try.func18, Try.ntmps18
  go_wp2
  rw [← HW.out]
  go_loopw [2] (fun i wr => ∃ (k : Nat) (a : Option Addr) (c : Nat), k ≤ 3 ∧ i = .int .i64 k ∧ BoxN wr w.heap.size zNw ∧ BoxN wr (w.heap.size + 1) ⟨a, k, c⟩ ∧ OwnsG DRep wr (w.heap.size + 2) (.slice a k c) (upto k) ∧ Below w.heap.size w wr) (fun i _ => 3 - (intOf i).toNat)
  case atStart => exact ⟨0, none, 0, by omega, rfl, HBa.out, HBb.out, HN.out, HB0.out⟩
  case round =>
    obtain ⟨k, a, c, hk, rfl, ha, hb, ho, hnx⟩ := hrel
    have HA := Lib.hid ha
    have HB := Lib.hid hb
    have HO := Lib.hid ho
    have hlo : w.heap.size + 2 ≤ wr.heap.size := by have := hb.lt; omega
    clear ha ho
    by_cases hlt : k < 3
    · have hlt' : (k : Int) < 3 := by omega
      have hlen : (upto k).length ≤ 4194303 := by rw [upto_len]; omega
      obtain ⟨c0, c1⟩ := cNw (box_at hb)
      clear hb
      go_wp2_with (first
        | (with_reducible refine appendG (D := DRep) (y := (k : Int)) rfl _ _ rfl rfl rfl rfl HO.out hlen hlo ?_
           intro v1 w3 hown1 hb1 hz2 _
           clear c0 c1
           have HB3 := Lib.hid (HB.out.of_block (hb1.block _ (by omega)))
           have HA3 := Lib.hid (HA.out.of_block (hb1.block _ (by omega)))
           rw [← upto_succ] at hown1
           obtain ⟨a1, c1', rfl, _⟩ := hown1.row
           rw [upto_len] at hown1 ⊢
           have HO3 := Lib.hid hown1
           have HX3 := Lib.hid (hnx.trans (hb1.mono (by omega)))
           have hth : w3.there (w.heap.size + 1) 0 1 := by simpa using HB3.out.there (k := 0) (by omega) 0 1 (by show 0 + 1 ≤ 2; omega)
           have HT3 := Lib.hid hth
           clear hown1 hb1 hth)
        | (refine store1 rfl 35 _ _ rfl rfl rfl rfl sz_reps HT3.out ?_
           intro w4 hw4
           have HB4 := Lib.hid (by rw [hw4]; exact box_setF HB3.out (j := 0) (by show 0 < 2; omega) _ ⟨a1, k + 1, c1'⟩ rfl : BoxN w4 (w.heap.size + 1) ⟨a1, k + 1, c1'⟩)
           have HA4 := Lib.hid (by rw [hw4]; exact HA3.out.of_block (setCell_other (by omega)) : BoxN w4 w.heap.size zNw)
           have HX4 := Lib.hid (by rw [hw4]; exact HX3.out.setCell (by show _ ≤ w.heap.size + 1; omega) _ : Below w.heap.size w w4)
           have HO4 := Lib.hid (by rw [hw4]; exact owns_setCell HO3.out (by omega) : OwnsG DRep w4 (w.heap.size + 2) (.slice a1 (k + 1) c1') (upto (k + 1)))
           clear hw4))
      go_roundw
      case rel => exact ⟨k + 1, a1, c1', by omega, by go_num, HA4.out, HB4.out, HO4.out, HX4.out⟩
      case measure => simp [intOf]; omega
    · obtain rfl : k = 3 := by omega
      obtain ⟨c0, c1⟩ := cNw (box_at hb)
      obtain ⟨b1, c1', e1, hb1, hc1, hrow⟩ := rowHd HO.out (by rw [upto_len]; omega)
      have HR := Lib.hid hrow
      injection e1 with e1 e2 e3
      subst e1
      subst e3
      have HTH := Lib.hid (box_there HA.out : wr.there w.heap.size 0 2)
      clear hb hrow e2
      go_wp2_with (refine store_Nw (v := ⟨some ⟨b1, 0, none⟩, 3, c⟩) rfl _ _ rfl rfl rfl HTH.out ?_)
      obtain ⟨f0, f1⟩ := cNw (box_at (box_put HA.out ⟨some ⟨b1, 0, none⟩, 3, c⟩))
      exact bodyPost_ret (v := .agg #[.slice (some ⟨b1, 0, none⟩) 3 c, .slice none 0 0]) (by simp [results, Try.results18, go_sem, f0, f1]) rfl
        ⟨b1, c, rfl, by omega, HR.out.of_block (heap_setCells _ _ (by omega) _ _ _), below_setCells (Nat.le_refl _) _ _ _ hnx⟩

set_option maxRecDepth 100000 in
set_option maxHeartbeats 2000000 in
theorem impl_NewNetwork (w : World) : Calls Try.prog 19 #[] w (GivesN w) := by
  obtain ⟨w0, hw0⟩ : ∃ w0, w0 = ((w.alloc (.cells #[.slice none 0 0, .slice none 0 0] 38)).alloc (.cells #[.slice none 0 0, .slice none 0 0] 38)) := ⟨_, rfl⟩
  have hz0 : w0.heap.size = w.heap.size + 2 := by rw [hw0]; simp
  have HB0 := Lib.hid (by rw [hw0]; exact (((Below.refl _ _).alloc (Nat.le_refl _) _).alloc (by simp) _) : Below w.heap.size w w0)
  have HBa := Lib.hid (by
    have h1 : BoxN (w.alloc (.cells #[.slice none 0 0, .slice none 0 0] 38)) w.heap.size zNw := box_newG w _ _ zNw rfl
    rw [hw0]
    exact h1.below ((Below.refl _ _).alloc (Nat.le_refl _) _) : BoxN w0 w.heap.size zNw)
  have HBb := Lib.hid (by
    have h1 := box_newG (E := ENw) (w.alloc (.cells #[.slice none 0 0, .slice none 0 0] 38)) #[.slice none 0 0, .slice none 0 0] 38 zNw rfl
    rw [← hw0] at h1
    simpa using h1 : BoxN w0 (w.heap.size + 1) zNw)
  have HN := Lib.hid (show OwnsG DRep w0 (w.heap.size + 2) (.slice none 0 0) (upto 0) from ownsG_nil (D := DRep) w0 (w.heap.size + 2))
  have HZ := Lib.hid hz0
  have HW := Lib.hid hw0
  clear hw0 hz0
  go_enter Try.func19, Try.ntmps19
  go_wp2
  rw [← HW.out]
  go_loopw [3] (fun i wr => ∃ (k : Nat) (a : Option Addr) (c : Nat), k ≤ 3 ∧ i = .int .i64 k ∧ BoxN wr w.heap.size zNw ∧ BoxN wr (w.heap.size + 1) ⟨a, k, c⟩ ∧ OwnsG DRep wr (w.heap.size + 2) (.slice a k c) (upto k) ∧ Below w.heap.size w wr) (fun i _ => 3 - (intOf i).toNat)
  case atStart => exact ⟨0, none, 0, by omega, rfl, HBa.out, HBb.out, HN.out, HB0.out⟩
  case round =>
    obtain ⟨k, a, c, hk, rfl, ha, hb, ho, hnx⟩ := hrel
    have HA := Lib.hid ha
    have HB := Lib.hid hb
    have HO := Lib.hid ho
    have hlo : w.heap.size + 2 ≤ wr.heap.size := by have := hb.lt; omega
    clear ha ho
    by_cases hlt : k < 3
    · have hlt' : (k : Int) < 3 := by omega
      have hlen : (upto k).length ≤ 4194303 := by rw [upto_len]; omega
      obtain ⟨c0, c1⟩ := cNw (box_at hb)
      clear hb
      go_wp2_with (first
        | (with_reducible refine appendG (D := DRep) (y := (k : Int)) rfl _ _ rfl rfl rfl rfl HO.out hlen hlo ?_
           intro v1 w3 hown1 hb1 hz2 _
           clear c0 c1
           have HB3 := Lib.hid (HB.out.of_block (hb1.block _ (by omega)))
           have HA3 := Lib.hid (HA.out.of_block (hb1.block _ (by omega)))
           rw [← upto_succ] at hown1
           obtain ⟨a1, c1', rfl, _⟩ := hown1.row
           rw [upto_len] at hown1 ⊢
           have HO3 := Lib.hid hown1
           have HX3 := Lib.hid (hnx.trans (hb1.mono (by omega)))
           have hth : w3.there (w.heap.size + 1) 0 1 := by simpa using HB3.out.there (k := 0) (by omega) 0 1 (by show 0 + 1 ≤ 2; omega)
           have HT3 := Lib.hid hth
           clear hown1 hb1 hth)
        | (refine store1 rfl 35 _ _ rfl rfl rfl rfl sz_reps HT3.out ?_
           intro w4 hw4
           have HB4 := Lib.hid (by rw [hw4]; exact box_setF HB3.out (j := 0) (by show 0 < 2; omega) _ ⟨a1, k + 1, c1'⟩ rfl : BoxN w4 (w.heap.size + 1) ⟨a1, k + 1, c1'⟩)
           have HA4 := Lib.hid (by rw [hw4]; exact HA3.out.of_block (setCell_other (by omega)) : BoxN w4 w.heap.size zNw)
           have HX4 := Lib.hid (by rw [hw4]; exact HX3.out.setCell (by show _ ≤ w.heap.size + 1; omega) _ : Below w.heap.size w w4)
           have HO4 := Lib.hid (by rw [hw4]; exact owns_setCell HO3.out (by omega) : OwnsG DRep w4 (w.heap.size + 2) (.slice a1 (k + 1) c1') (upto (k + 1)))
           clear hw4))
      go_roundw
      case rel => exact ⟨k + 1, a1, c1', by omega, by go_num, HA4.out, HB4.out, HO4.out, HX4.out⟩
      case measure => simp [intOf]; omega
    · obtain rfl : k = 3 := by omega
      obtain ⟨c0, c1⟩ := cNw (box_at hb)
      obtain ⟨b1, c1', e1, hb1, hc1, hrow⟩ := rowHd HO.out (by rw [upto_len]; omega)
      have HR := Lib.hid hrow
      injection e1 with e1 e2 e3
      subst e1
      subst e3
      have HTH := Lib.hid (box_there HA.out : wr.there w.heap.size 0 2)
      clear hb hrow e2
      go_wp2_with (refine store_Nw (v := ⟨some ⟨b1, 0, none⟩, 3, c⟩) rfl _ _ rfl rfl rfl HTH.out ?_)
      obtain ⟨f0, f1⟩ := cNw (box_at (box_put HA.out ⟨some ⟨b1, 0, none⟩, 3, c⟩))
      exact bodyPost_ret (v := .agg #[.slice (some ⟨b1, 0, none⟩) 3 c, .slice none 0 0]) (by simp [results, Try.results19, go_sem, f0, f1]) rfl
        ⟨b1, c, rfl, by omega, HR.out.of_block (heap_setCells _ _ (by omega) _ _ _), below_setCells (Nat.le_refl _) _ _ _ hnx⟩
end Go.Proofs.Ytdbnflgckcjlcaa.NnA
