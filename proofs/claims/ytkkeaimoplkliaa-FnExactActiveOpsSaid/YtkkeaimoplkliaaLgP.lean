/-
  Growing slices of operations by append; logPrefix, LogPrefix and LogMissing of the model. For slices that read as a list of at most 2^20 operations; the logs valid where it is said.
-/
import Derived.Test.YtkkeaimoplkliaaLgI
import Derived.Test.YtkkeaimoplkliaaVecA
import Derived.Maps.AppendAt
import Derived.Outline
namespace Go.Proofs.Ytkkeaimoplkliaa.LgP
open Go.RowKit Go.Proofs.Ytkkeaimoplkliaa.Base Go.Proofs.Ytkkeaimoplkliaa.St Go.Proofs.Ytkkeaimoplkliaa.StB Go.Proofs.Ytkkeaimoplkliaa.Vec Go.Proofs.Ytkkeaimoplkliaa.Row Go.Proofs.Ytkkeaimoplkliaa.VecA Go.Proofs.Ytkkeaimoplkliaa.OpA Go.Proofs.Ytkkeaimoplkliaa.OpB Go.Proofs.Ytkkeaimoplkliaa.LgA Go.Proofs.Ytkkeaimoplkliaa.LgB Go.Proofs.Ytkkeaimoplkliaa.LgC Go.Proofs.Ytkkeaimoplkliaa.LgF Go.Proofs.Ytkkeaimoplkliaa.LgI
set_option linter.unusedVariables false

/-- The slice value v is of the call's own (from block lo on) and holds the operations os. -/
def OwnsO (w : World) (lo : Nat) (v : Value) (os : List OpV) : Prop := w.ownsRow lo 30 12 v os.length (flat os)
theorem ownsO_nil (w : World) (lo : Nat) : OwnsO w lo (.slice none 0 0) [] := World.ownsRow_nil _ _ _ _
theorem ownsO_empty (w : World) (lo : Nat) (hl : lo ≤ w.heap.size) : OwnsO (w.alloc (.cells #[] 30)) lo (.slice (some ⟨w.heap.size, 0, none⟩) 0 0) [] :=
  ⟨rfl, .inr ⟨w.heap.size, 0, #[], rfl, hl, heap_alloc_new _ _, Nat.le_refl _, Nat.zero_le _, rfl, rfl⟩⟩
theorem OwnsO.below {w w' : World} {lo : Nat} {v : Value} {os : List OpV} (h : OwnsO w lo v os) (hb : Below w.heap.size w w') : OwnsO w' lo v os := by
  unfold OwnsO at h ⊢
  exact h.kept (row := none) ⟨hb.os, hb.tape, hb.output, hb.size, fun k hk _ => hb.block k hk⟩ (by cases v.ownBlock <;> simp)
theorem OwnsO.gives {w w' : World} {v : Value} {os : List OpV} (h : OwnsO w' w.heap.size v os) (hb : Below w.heap.size w w') : GivesO w os (.returned v) w' := by
  obtain ⟨a, c, rfl, hr⟩ := ownedO h
  exact ⟨a, c, rfl, hr, hb⟩

theorem info104 : (Try.prog.info? 30).map (fun i => (i.zero, i.size, i.bytes)) = some (some (.agg #[.int .i64 zop.i, .int .i64 zop.j, .int .i64 zop.k, .int .i64 zop.ts, .int .i64 zop.ta, .int .i64 zop.fs, .int .i64 zop.fa, .int .i64 zop.ns, .int .i64 zop.na, .int .i64 zop.v, .bool zop.en, .string zop.tx]), 12, 104) := by kernel_rfl
theorem news (w0 : World) (o : OpV) : ∀ j u, (opL o)[j]? = some u → (w0.alloc (.cells #[.int .i64 o.i, .int .i64 o.j, .int .i64 o.k, .int .i64 o.ts, .int .i64 o.ta, .int .i64 o.fs, .int .i64 o.fa, .int .i64 o.ns, .int .i64 o.na, .int .i64 o.v, .bool o.en, .string o.tx] 30)).cell? ((⟨w0.heap.size, 0, none⟩ : Addr).add j) = some u := by
  intro j u hu
  rw [Addr.add_mid, Nat.zero_add, World.cell?_alloc_at _ _ _ _ rfl]
  rw [← hu]
  show ((opL o).toArray)[j]? = (opL o)[j]?
  simp

/-- append of one operation that lies in a new block. -/
theorem appendO {ops : Array Oper} {rest : List Oper} {op : Oper} {a : Act} {w0 : World} {Q : Exit → Act → World → Prop} (hgd : op.guard = none) (s x : Operand)
    (ho : op.op = .call { callee := .builtin .append, args := #[s, x], argTypes := #[36, 36] }) {lo : Nat} {v : Value} {os : List OpV} {o : OpV} {c : Nat}
    (hs : a.eval s = v) (hx : a.eval x = .slice (some ⟨w0.heap.size, 0, none⟩) 1 c) (hown : OwnsO w0 lo v os) (hlen : os.length ≤ 1048576) (hlo : lo ≤ w0.heap.size)
    (k : ∀ v' w', OwnsO w' lo v' (os ++ [o]) → Below lo w0 w' → lo ≤ w'.heap.size → wpList Try.prog ops Q rest (a.put op.dst v') w') :
    wpList Try.prog ops Q (op :: rest) a (w0.alloc (.cells #[.int .i64 o.i, .int .i64 o.j, .int .i64 o.k, .int .i64 o.ts, .int .i64 o.ta, .int .i64 o.fs, .int .i64 o.fa, .int .i64 o.ns, .int .i64 o.na, .int .i64 o.v, .bool o.en, .string o.tx] 30)) := by
  obtain ⟨i0, hi, hz0, hz1, hz2⟩ := info_parts info104
  refine wpList_append_own _ hgd s x 36 ho lo 30 i0 _ 12 104 Try.underlying36 hi hz0 hz1 hz2 rfl (by omega) v os.length (flat os) hs (World.ownsRow.alloc hown _) ⟨w0.heap.size, 0, none⟩ 1 c (opL o) hx rfl (news w0 o) ?_ ?_ ?_ ?_ ?_
  · intro u hu
    exact flat_one' [o] u (by rw [flat_one]; exact hu)
  · unfold maxLen; omega
  · omega
  · simp; omega
  · intro v' w' h1 h2 _
    refine k v' w' ?_ ((((Below.refl lo w0).alloc hlo _)).grown h2 (by simp; omega) (fun k hk => ?_)) (Nat.le_trans hlo (Nat.le_trans (by simp) h2.size))
    · unfold OwnsO
      rw [List.length_append, flat_append, flat_one]
      exact h1
    · exact (World.ownsRow.lt (show w0.ownsRow lo 30 12 v os.length (flat os) from hown) k hk).1

/-- The first k operations that pass. -/
def keepTo (P : OpV → Bool) (os : List OpV) : Nat → List OpV
  | 0 => []
  | k + 1 => if P (os.getD k zop) then keepTo P os k ++ [os.getD k zop] else keepTo P os k
theorem keepTo_len (P : OpV → Bool) (os : List OpV) (k : Nat) : (keepTo P os k).length ≤ k := by
  induction k with
  | zero => exact Nat.le_refl _
  | succ k ih => rw [keepTo]; split <;> first | (simp; omega) | omega
/-- Operation o is contained in the vector zs. -/
def con (zs : List Int) (o : OpV) : Bool := decide (o.i ≤ zs.getD o.j.toNat 0)
theorem vst_of {os : List OpV} (h : allTo os os.length = true) {k : Nat} (hk : k < os.length) : vst (os.getD k zop).i (os.getD k zop).j = true := by
  unfold allTo at h
  rw [List.all_eq_true] at h
  have := h k (by simpa using hk)
  unfold vop at this
  simp only [Bool.and_eq_true] at this
  exact this.1
theorem allTo_of {os : List OpV} (h : vlog os = true) : allTo os os.length = true := by
  unfold vlog at h
  simp only [Bool.and_eq_true] at h
  exact h.2.1
theorem len_of {os : List OpV} (h : vlog os = true) : os.length ≤ 40 := by
  unfold vlog at h
  simp only [Bool.and_eq_true, decide_eq_true_eq] at h
  exact h.1

set_option maxRecDepth 100000 in
set_option maxHeartbeats 1000000 in
theorem spec_logPrefix (a ad : Option Addr) (c cv : Nat) (os : List OpV) (zs : List Int) (w : World) (hr : RdO w a os) (hz : Rd w ad zs) (hl : os.length ≤ 1048576) (hv : vv zs = true) (hok : allTo os os.length = true) :
    Calls Try.prog 70 #[.slice a os.length c, .slice ad zs.length cv] w (GivesO w (keepTo (con zs) os os.length)) := by
  have HOK := Lib.hid (fun k (hk : k < os.length) => vst_of hok hk)
  have HZ := Lib.hid hz
  have HVV := Lib.hid hv
  clear hok hz hv
  have HE := Lib.hid (ownsO_empty w w.heap.size (Nat.le_refl _))
  rcases hr with rfl | ⟨b, off, rfl, hc⟩
  · go_enter Try.func70, Try.ntmps70
    go_wp2
    go_rounds 1
    go_ret
    exact HE.out.gives ((Below.refl _ _).alloc (Nat.le_refl _) _)
  · have HC := Lib.hid hc
    clear hc
    go_enter Try.func70, Try.ntmps70
    go_wp2
    go_loopw [5, 6] (fun s i wr => ∃ k : Nat, k ≤ os.length ∧ i = .int .i64 k ∧ OwnsO wr w.heap.size s (keepTo (con zs) os k) ∧ Below w.heap.size w wr) (fun _ i _ => os.length - (intOf i).toNat)
    case atStart => exact ⟨0, Nat.zero_le _, rfl, HE.out, (Below.refl _ _).alloc (Nat.le_refl _) _⟩
    case round =>
      obtain ⟨k, hk, rfl, hown, hnx⟩ := hrel
      by_cases hlt : k < os.length
      · obtain ⟨o, ho⟩ : ∃ o, o = os.getD k zop := ⟨_, rfl⟩
        have hr := (by rw [ho]; exact rangeAt_below (HC.out k hlt) hnx (rangeAt_lt (HC.out k hlt)) : wr.rangeAt b (off + k * 12) (opL o))
        have HR := Lib.hid hr
        have hlb := rangeAt_lt hr
        obtain ⟨q0, q1, _, _, _, _, _, _, _, _, _, _⟩ := c12 hr
        have hst : vst o.i o.j = true := by rw [ho]; exact HOK.out k hlt
        have HCon := Lib.hid (fun (W : World) (h : Below w.heap.size w W) => spec_vectorContains ad cv zs o.i o.j W (Rd.below HZ.out h) HVV.out hst)
        have hkl := keepTo_len (con zs) os k
        have HO := Lib.hid ho
        obtain ⟨p, hp⟩ : ∃ p, con zs o = p := ⟨_, rfl⟩
        have hp' : decide (o.i ≤ zs.getD o.j.toNat 0) = p := hp
        rw [hp'] at HCon
        have HP := Lib.hid hp
        clear ho hr hp hp' hst
        cases p
        · go_wp2_with fail
          refine (HCon.out _ hnx).mono ?_
          rintro e w1 ⟨rfl, hb1⟩
          go_wp2
          go_roundw
          case rel => exact ⟨k + 1, by omega, by go_num, by rw [keepTo, if_neg (by rw [← HO.out, HP.out]; exact Bool.false_ne_true)]; exact hown.below hb1, hnx.trans (hb1.mono hnx.size)⟩
          case measure => simp [intOf]; omega
        · go_wp2_with fail
          refine (HCon.out _ hnx).mono ?_
          rintro e w1 ⟨rfl, hb1⟩
          have HR1 := Lib.hid (rangeAt_below HR.out hb1 hlb)
          have hown1 := hown.below hb1
          have hnx1 := hnx.trans (hb1.mono hnx.size)
          have hsz1 := hnx1.size
          clear hown q0 q1
          go_wp2_with (first
            | (refine loadI rfl _ rfl rfl HR1.out ?_)
            | (with_reducible refine appendO (o := o) rfl _ _ rfl rfl rfl hown1 (by omega) hsz1 ?_; intro v2 w2 hown2 hb2 hsz2))
          go_roundw
          case rel => exact ⟨k + 1, by omega, by go_num, by rw [keepTo, if_pos (by rw [← HO.out, HP.out]), ← HO.out]; exact hown2, hnx1.trans hb2⟩
          case measure => simp [intOf]; omega
      · obtain rfl : k = os.length := by omega
        go_wp2
        go_ret
        exact hown.gives hnx

end Go.Proofs.Ytkkeaimoplkliaa.LgP
