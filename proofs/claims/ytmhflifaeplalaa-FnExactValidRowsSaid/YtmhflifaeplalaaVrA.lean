/-
  ValidRows: the chain of kinds above the next row; which rows are valid; allow and followedBy of the program. For chains of at most 2^20; no further condition.
-/
import Derived.Test.YtmhflifaeplalaaGwB
import Derived.Test.YtmhflifaeplalaaScA
import Derived.Test.YtmhflifaeplalaaK3
import Derived.Deep.RegionLaw
import Derived.Outline
namespace Go.Proofs.Ytmhflifaeplalaa.VrA
open Go.RowKit Go.Proofs.Ytmhflifaeplalaa.Base Go.Proofs.Ytmhflifaeplalaa.GsA Go.Proofs.Ytmhflifaeplalaa.GwB Go.Proofs.Ytmhflifaeplalaa.St Go.Proofs.Ytmhflifaeplalaa.Vec Go.Proofs.Ytmhflifaeplalaa.Row Go.Proofs.Ytmhflifaeplalaa.RowB Go.Proofs.Ytmhflifaeplalaa.ScA
set_option linter.unusedVariables false

/-- The kind above a row of depth d; whether the row may come; the chain behind it. -/
def top (ch : List Int) (r : RowV) : Int := if 0 < r.d then ch.getD (r.d - 1).toNat 0 else 0
def okRow (ch : List Int) (r : RowV) : Bool := inR r.d 0 ch.length && allows (top ch r) r.k
def nx (ch : List Int) (r : RowV) : List Int := ch.take r.d.toNat ++ [r.k]
def chAt (xs : List RowV) : Nat → List Int
  | 0 => []
  | k + 1 => nx (chAt xs k) (xs.getD k zRow)
def okTo (xs : List RowV) : Nat → Bool
  | 0 => true
  | k + 1 => okTo xs k && okRow (chAt xs k) (xs.getD k zRow)
theorem nx_len (ch : List Int) (r : RowV) : (nx ch r).length ≤ ch.length + 1 := by
  unfold nx
  rw [List.length_append, List.length_take, List.length_singleton]
  omega
theorem chAt_len (xs : List RowV) (k : Nat) : (chAt xs k).length ≤ k := by
  induction k with
  | zero => exact Nat.le_refl _
  | succ k ih => rw [chAt]; have := nx_len (chAt xs k) (xs.getD k zRow); omega
theorem okTo_bad (xs : List RowV) {k : Nat} (h : okRow (chAt xs k) (xs.getD k zRow) = false) : ∀ n, k < n → okTo xs n = false
  | 0, hn => by omega
  | n + 1, hn => by
    rw [okTo]
    by_cases e : k = n
    · subst e; rw [h, Bool.and_false]
    · rw [okTo_bad xs h n (by omega), Bool.false_and]

/-- The slice value v is of the call's own (from block lo on) and holds the numbers ch. -/
def OwnsI (w : World) (lo : Nat) (v : Value) (ch : List Int) : Prop := w.ownsRow lo 3 1 v ch.length (ch.map (Value.int .i64))
theorem ownsI_nil (w : World) (lo : Nat) : OwnsI w lo (.slice none 0 0) [] := World.ownsRow_nil _ _ _ _
theorem OwnsI.below {w w' : World} {lo : Nat} {v : Value} {ch : List Int} (h : OwnsI w lo v ch) (hb : Below w.heap.size w w') : OwnsI w' lo v ch := by
  unfold OwnsI at h ⊢
  exact h.kept (row := none) ⟨hb.os, hb.tape, hb.output, hb.size, fun k hk _ => hb.block k hk⟩ (by cases v.ownBlock <;> simp)
theorem OwnsI.form {w : World} {lo : Nat} {v : Value} {ch : List Int} (h : OwnsI w lo v ch) : ∃ a c, v = .slice a ch.length c ∧ Rd w a ch ∧ ch.length ≤ c ∧ c ≤ maxLen ∧ (a = none → c = 0) := by
  rcases h.2 with ⟨rfl, h0⟩ | ⟨g, cap, cur, rfl, hb, hh, hn, hm, hs, ht⟩
  · exact ⟨none, 0, by rw [h0], .inl (List.eq_nil_of_length_eq_zero h0), by omega, by unfold maxLen; omega, fun _ => rfl⟩
  · obtain ⟨a, c, e, hr⟩ := owned h
    injection e with e1 _ e3
    subst e1 e3
    exact ⟨_, _, rfl, hr.rd, hn, hm, fun h => by cases h⟩
theorem OwnsI.take {w : World} {lo : Nat} {a : Option Addr} {c : Nat} {ch : List Int} (h : OwnsI w lo (.slice a ch.length c) ch) {d : Nat} (hd : d ≤ ch.length) : w.ownsRow lo 3 1 (.slice a d c) d ((ch.take d).map (Value.int .i64)) := by
  refine ⟨by simp; omega, ?_⟩
  rcases h.2 with ⟨e, h0⟩ | ⟨g, cap, cur, e, hb, hh, hn, hm, hs, ht⟩
  · injection e with e1 _ e3
    subst e1 e3
    left
    have : d = 0 := by omega
    subst this
    exact ⟨rfl, rfl⟩
  · injection e with e1 _ e3
    subst e1 e3
    refine .inr ⟨g, c, cur, rfl, hb, hh, by omega, hm, hs, ?_⟩
    rw [List.map_take, ← ht, List.take_take]
    congr 1
    omega

/-- append to a row of the call's own, as one step of a region that draws its order. -/
theorem step_own {P : Program} {ops : Array Oper} {o : Oper} {a : Act} {w : World} {K : Act → World → Prop} {Q : Exit → Act → World → Prop} {E : Prop}
    (hg : o.guard = none) (s x : Operand) (t : TypeId) (hop : o.op = Op.call { callee := Callee.builtin Builtin.append, args := #[s, x], argTypes := #[t, t] })
    (base : Nat) (e : TypeId) (i : TypeInfo) (z : Value) (size bytes : Nat) (h1 : P.underlying t = some (.slice e)) (h2 : P.info? e = some i) (h3 : i.zero = some z) (h4 : i.size = size) (h5 : i.bytes = bytes) (h6 : z.cells.size = size) (h7 : 0 < size)
    (v : Value) (n : Nat) (xs : List Value) (hs : a.eval s = v) (hown : w.ownsRow base e size v n xs) (ad : Addr) (m c : Nat) (news : List Value) (hx : a.eval x = .slice (some ad) m c) (hn : news.length = m * size) (hc : ∀ j u, news[j]? = some u → w.cell? (ad.add j) = some u) (h1c : ∀ u ∈ news, u.oneCell' = true)
    (b1 : n + m ≤ maxLen) (b2 : (n + m) * bytes ≤ 140737488355328) (hb : base ≤ w.heap.size)
    (hK : ∀ v' w', w'.ownsRow base e size v' (n + m) (xs ++ news) → w.grownBy w' v.ownBlock → K (a.put o.dst v') w') :
    if Region.wanted o (yielded ops a.tmps) = true then Oper.wp P o a w K Q else E := by
  have hw : Region.wanted o (yielded ops a.tmps) = true := by simp [Region.wanted, hg]
  rw [if_pos hw]
  obtain ⟨v', w', hrun, r1, r2, _⟩ := run_append_own (P := P) w base t o.type e i z size bytes h1 h2 h3 h4 h5 h6 h7 v n xs hown ad m c news hn hc h1c b1 b2 hb
  unfold Oper.wp
  simp [execOp, hop, resolve, invoke, builtin, hs, hx, hrun, Result.andThen]
  exact hK v' w' r1 r2

theorem infoI : (Try.prog.info? 3).map (fun i => (i.zero, i.size, i.bytes)) = some (some (.int .i64 0), 1, 8) := by kernel_rfl
theorem newsI (w0 : World) (x : Int) : ∀ j u, [Value.int .i64 x][j]? = some u → (w0.alloc (.cells #[.int .i64 x] 3)).cell? ((⟨w0.heap.size, 0, none⟩ : Addr).add j) = some u := by
  intro j u hu
  rw [Addr.add_mid, Nat.zero_add, World.cell?_alloc_at _ _ _ _ rfl]
  rw [← hu]
  show ([Value.int .i64 x].toArray)[j]? = [Value.int .i64 x][j]?
  simp

theorem allow (A : Option Addr) (c : Nat) (ch : List Int) (r : RowV) (w : World) (h : Rd w A ch) (hl : ch.length ≤ 1048576) :
    Calls Try.prog 49 #[.slice A ch.length c, .agg #[.int .i64 r.i, .int .i64 r.j, .int .i64 r.k, .int .i64 r.d, .string r.tx]] w fun e w' => e = .returned (.bool (okRow ch r)) ∧ Below w.heap.size w w' := by
  have HR := Lib.hid (fun w => impl_inRange r.d 0 ch.length w)
  have B0 := Lib.hid ((Below.refl w.heap.size w).alloc (Nat.le_refl _) (.cells #[.int .i64 r.i, .int .i64 r.j, .int .i64 r.k, .int .i64 r.d, .string r.tx] 38))
  obtain ⟨q, hq⟩ : ∃ q, inR r.d 0 ch.length = q := ⟨_, rfl⟩
  rw [hq] at HR
  cases q
  · have e : okRow ch r = false := by unfold okRow; rw [hq]; rfl
    rw [e]
    clear e hq h
    go_enter Try.func49, Try.ntmps49
    go_wp2_with fail
    refine (HR.out _).mono ?_
    rintro e w1 ⟨rfl, rfl⟩
    go_wp2
    go_ret
    exact ⟨rfl, B0.out⟩
  · have e : okRow ch r = allows (top ch r) r.k := by unfold okRow; rw [hq]; rfl
    rw [e]
    clear e
    rw [inR_iff] at hq
    obtain ⟨hd0, hd1⟩ := hq
    have HA := Lib.hid (fun w => impl_SchemaAllows (top ch r) r.k w)
    by_cases hd : 0 < r.d
    · obtain ⟨j, hj⟩ : ∃ j : Nat, r.d = (j : Int) + 1 := ⟨(r.d - 1).toNat, by omega⟩
      have hjl : j < ch.length := by omega
      have ht : top ch r = ch.getD j 0 := by
        unfold top
        rw [if_pos hd]
        congr 1
        omega
      rcases h with h0 | ⟨b, off, rfl, hc⟩
      · rw [h0] at hjl; cases hjl
      have hcell := hc j hjl
      have HT := Lib.hid ht
      have hlb : b < w.heap.size := World.block_lt_of_cell? w _ hcell
      have hc2 := (B0.out.cell (p := ⟨b, off + j, none⟩) hlb).trans hcell
      rw [ht] at HA ⊢
      generalize ch.getD j 0 = tp at HA hc2
      have hj0 : (0 : Int) ≤ (j : Int) := Int.natCast_nonneg _
      have hj1 : (j : Int) < (ch.length : Int) := by omega
      have hw : IntKind.i64.wrap ((j : Int) + 1 - 1) = (j : Int) := by rw [IntKind.wrap_i64]; omega
      have hp : (0 : Int) < (j : Int) + 1 := by omega
      obtain ⟨ri, rj, rk, rd, rt⟩ := r
      simp only at hj
      subst hj
      clear hc hcell ht hd hd0 hd1
      go_enter Try.func49, Try.ntmps49
      go_wp2_with fail
      refine (HR.out _).mono ?_
      rintro e w1 ⟨rfl, rfl⟩
      go_wp2_with fail
      refine (HA.out _).mono ?_
      rintro e w1 ⟨rfl, rfl⟩
      go_wp2
      go_ret
      exact ⟨rfl, B0.out⟩
    · have ht : top ch r = 0 := by unfold top; rw [if_neg hd]
      rw [ht] at HA ⊢
      clear ht h
      go_enter Try.func49, Try.ntmps49
      go_wp2_with fail
      refine (HR.out _).mono ?_
      rintro e w1 ⟨rfl, rfl⟩
      go_wp2_with fail
      refine (HA.out _).mono ?_
      rintro e w1 ⟨rfl, rfl⟩
      go_wp2
      go_ret
      exact ⟨rfl, B0.out⟩

end Go.Proofs.Ytmhflifaeplalaa.VrA
