/-
  filter of the program's ordered set of operations, at a predicate that is a closure over one variable; the two closures of LogPrefix and LogMissing. For slices that read as a list of at most 2^20 operations, all valid.
-/
import Derived.Test.YtkkeaimoplkliaaLgQ
import Derived.Test.YtkkeaimoplkliaaLgG
import Derived.Laws.EntriesVeiled
import Derived.Outline
namespace Go.Proofs.Ytkkeaimoplkliaa.LgR
open Go.RowKit Go.Proofs.Ytkkeaimoplkliaa.Base Go.Proofs.Ytkkeaimoplkliaa.St Go.Proofs.Ytkkeaimoplkliaa.StB Go.Proofs.Ytkkeaimoplkliaa.Vec Go.Proofs.Ytkkeaimoplkliaa.Row Go.Proofs.Ytkkeaimoplkliaa.VecA Go.Proofs.Ytkkeaimoplkliaa.OpA Go.Proofs.Ytkkeaimoplkliaa.OpB Go.Proofs.Ytkkeaimoplkliaa.LgA Go.Proofs.Ytkkeaimoplkliaa.LgB Go.Proofs.Ytkkeaimoplkliaa.LgC Go.Proofs.Ytkkeaimoplkliaa.LgF Go.Proofs.Ytkkeaimoplkliaa.LgG Go.Proofs.Ytkkeaimoplkliaa.LgI Go.Proofs.Ytkkeaimoplkliaa.LgP Go.Proofs.Ytkkeaimoplkliaa.LgQ
set_option linter.unusedVariables false

theorem OwnsO.lower {w : World} {lo lo' : Nat} {v : Value} {os : List OpV} (h : OwnsO w lo v os) (hl : lo' ≤ lo) : OwnsO w lo' v os := by
  refine ⟨h.1, ?_⟩
  rcases h.2 with h | ⟨g, cap, cur, rfl, hb, h⟩
  · exact .inl h
  · exact .inr ⟨g, cap, cur, rfl, Nat.le_trans hl hb, h⟩
theorem OwnsO.set {w : World} {lo : Nat} {v : Value} {os : List OpV} (h : OwnsO w lo v os) {a : Addr} (ha : a.block < lo) (u : Value) : OwnsO (w.setCell a u) lo v os := ownsRow_setCell_below h ha u
theorem boxR (w0 : World) (o : OpV) : (w0.alloc (.cells #[.int .i64 o.i, .int .i64 o.j, .int .i64 o.k, .int .i64 o.ts, .int .i64 o.ta, .int .i64 o.fs, .int .i64 o.fa, .int .i64 o.ns, .int .i64 o.na, .int .i64 o.v, .bool o.en, .string o.tx] 30)).rangeAt w0.heap.size 0 (opL o) :=
  fun j u hu => by have := news w0 o j u hu; rwa [Addr.add_mid] at this

/-- The set's box at block n and the answer's place behind it. -/
def Fx (n : Nat) (W : World) : Prop := n + 1 < W.heap.size ∧ W.cell? ⟨n, 1, none⟩ = some (.func (.func 92) #[] #[]) ∧ W.cell? ⟨n + 1, 0, none⟩ = some (.slice none 0 0) ∧ W.cell? ⟨n + 1, 1, none⟩ = some .nilFunc ∧
  W.frozen? ⟨n + 1, 0, none⟩ = false ∧ W.frozen? ⟨n + 1, 1, none⟩ = false
theorem Fx.next {n : Nat} {W W' : World} (h : Fx n W) (hb : Below (n + 2) W W') : Fx n W' := by
  obtain ⟨h0, h1, h2, h3, h4, h5⟩ := h
  have := hb.size
  exact ⟨by omega, (hb.cell (by show n < _; omega)).trans h1, (hb.cell (by show n + 1 < _; omega)).trans h2, (hb.cell (by show n + 1 < _; omega)).trans h3, (hb.frozen (by show n + 1 < _; omega)).trans h4, (hb.frozen (by show n + 1 < _; omega)).trans h5⟩

set_option maxRecDepth 100000 in
set_option maxHeartbeats 1000000 in
theorem filter (fn : FuncId) (p : Addr) (P : OpV → Bool) (a : Option Addr) (c : Nat) (os : List OpV) (w : World) (hr : RdO w a os) (hl : os.length ≤ 1048576) (hok : allTo os os.length = true)
    (HF : ∀ (args : Array Value) (W : World), (callFunc fn args).run Try.prog W = .ok (.enter fn args) W)
    (HK : ∀ o W, Below w.heap.size w W → vst o.i o.j = true → Calls Try.prog fn #[.agg #[.int .i64 o.i, .int .i64 o.j, .int .i64 o.k, .int .i64 o.ts, .int .i64 o.ta, .int .i64 o.fs, .int .i64 o.fa, .int .i64 o.ns, .int .i64 o.na, .int .i64 o.v, .bool o.en, .string o.tx], .pointer (some p)] W fun e w' => e = .returned (.bool (P o)) ∧ Below W.heap.size W w') :
    Calls Try.prog 72 #[.agg #[.slice a os.length c, .func (.func 92) #[] #[]], .func (.func fn) #[] #[.pointer (some p)]] w fun e w' =>
      ∃ v, e = .returned (.agg #[v, .func (.func 92) #[] #[]]) ∧ OwnsO w' w.heap.size v (keepTo P os os.length) ∧ Below w.heap.size w w' := by
  have HOK := Lib.hid (fun k (hk : k < os.length) => vst_of hok hk)
  have HKK := Lib.hid HK
  clear hok HK
  rcases hr with rfl | ⟨b, off, rfl, hc⟩
  · go_enter Try.func72, Try.ntmps72
    go_wp2
    go_rounds 1
    refine bodyPost_ret (v := .agg #[.slice none 0 0, .func (.func 92) #[] #[]]) (by simp [results, Try.results72, go_sem]) rfl ⟨_, rfl, ownsO_nil _ _, ?_⟩
    go_grown
  · have HC := Lib.hid hc
    clear hc
    go_enter Try.func72, Try.ntmps72
    go_wp2
    go_loopw [5, 11] (fun s i wr => ∃ k : Nat, k ≤ os.length ∧ i = .int .i64 k ∧ OwnsO wr (w.heap.size + 2) s (keepTo P os k) ∧ Below w.heap.size w wr ∧ Fx w.heap.size wr) (fun _ i _ => os.length - (intOf i).toNat)
    case atStart =>
      refine ⟨0, Nat.zero_le _, rfl, ownsO_nil _ _, ((Below.refl _ _).alloc (Nat.le_refl _) _).alloc (by simp) _, by simp, ?_⟩
      simp [go_sem]
    case round =>
      obtain ⟨k, hk, rfl, hown, hnx, hfx⟩ := hrel
      have hzz := hfx.1
      by_cases hlt : k < os.length
      · obtain ⟨o, ho⟩ : ∃ o, o = os.getD k zop := ⟨_, rfl⟩
        have hr := (by rw [ho]; exact rangeAt_below (HC.out k hlt) hnx (rangeAt_lt (HC.out k hlt)) : wr.rangeAt b (off + k * 12) (opL o))
        have HR := Lib.hid hr
        have hst : vst o.i o.j = true := by rw [ho]; exact HOK.out k hlt
        have HCal := Lib.hid (fun (W : World) (h : Below w.heap.size w W) => HKK.out o W h hst)
        have hkl := keepTo_len P os k
        have HO := Lib.hid ho
        obtain ⟨q, hq⟩ : ∃ q, P o = q := ⟨_, rfl⟩
        rw [hq] at HCal
        have HQ := Lib.hid hq
        have HBX := Lib.hid (boxR wr o)
        clear ho hr hq hst
        have hB0 : Below wr.heap.size wr (wr.alloc (.cells #[.int .i64 o.i, .int .i64 o.j, .int .i64 o.k, .int .i64 o.ts, .int .i64 o.ta, .int .i64 o.fs, .int .i64 o.fa, .int .i64 o.ns, .int .i64 o.na, .int .i64 o.v, .bool o.en, .string o.tx] 30)) := (Below.refl _ _).alloc (Nat.le_refl _) _
        cases q
        · go_wp2_with (refine loadI rfl _ rfl rfl HR.out ?_)
          refine (HCal.out _ (hnx.trans (hB0.mono hnx.size))).mono ?_
          rintro e w1 ⟨rfl, hb1⟩
          have hB1 := hB0.trans (hb1.mono (by simp))
          go_wp2
          go_roundw
          case rel => exact ⟨k + 1, by omega, by go_num, by rw [keepTo, if_neg (by rw [← HO.out, HQ.out]; exact Bool.false_ne_true)]; exact hown.below hB1, hnx.trans (hB1.mono hnx.size), hfx.next (hB1.mono (by omega))⟩
          case measure => simp [intOf]; omega
        · go_wp2_with (refine loadI rfl _ rfl rfl HR.out ?_)
          refine (HCal.out _ (hnx.trans (hB0.mono hnx.size))).mono ?_
          rintro e w1 ⟨rfl, hb1⟩
          have hB1 := hB0.trans (hb1.mono (by simp))
          have HR1 := Lib.hid (rangeAt_below HBX.out hb1 (by simp))
          have hown1 := hown.below hB1
          have hnx1 := hnx.trans (hB1.mono hnx.size)
          have hsz1 := hnx1.size
          have hsz2 : w.heap.size + 2 ≤ w1.heap.size := by have := hB1.size; omega
          clear hown
          go_wp2_with (first
            | (refine loadI rfl _ rfl rfl HR1.out ?_)
            | (with_reducible refine appendO (o := o) rfl _ _ rfl rfl rfl hown1 (by omega) hsz2 ?_; intro v2 w2 hown2 hb2 hsz3))
          go_roundw
          case rel => exact ⟨k + 1, by omega, by go_num, by rw [keepTo, if_pos (by rw [← HO.out, HQ.out]), ← HO.out]; exact hown2, hnx1.trans (hb2.mono (by omega)), (hfx.next (hB1.mono (by omega))).next hb2⟩
          case measure => simp [intOf]; omega
      · obtain rfl : k = os.length := by omega
        obtain ⟨av, cv, rfl, _⟩ := ownedO hown
        obtain ⟨_, f1, f2, f3, f4, f5⟩ := hfx
        go_wp2
        refine bodyPost_ret (v := .agg #[.slice av (keepTo P os os.length).length cv, .func (.func 92) #[] #[]]) (by simp [results, Try.results72, go_sem, f2, f3]) rfl ⟨_, rfl, ?_, ?_⟩
        · exact OwnsO.lower (OwnsO.set (OwnsO.set hown (by show w.heap.size + 1 < _; omega) _) (by show w.heap.size + 1 < _; omega) _) (by omega)
        · exact (hnx.setCell (by simp) _).setCell (by simp) _

/-- A function with a body is entered. -/
theorem enters {f : FuncId} {fn : Func} (hf : Try.prog.funcs[f]? = some fn) (h1 : (fn.name == "runtime.NumGoroutine") = false) (h2 : fn.body.isNone = false) (args : Array Value) (W : World) : (callFunc f args).run Try.prog W = .ok (.enter f args) W := by
  have h1' : ¬ fn.name = "runtime.NumGoroutine" := by simpa using h1
  have h2' : ¬ fn.body = none := fun e => by rw [e] at h2; cases h2
  simp [callFunc, go_sem, hf, h1', h2']

theorem keepP (x y z : Int) (o : OpV) (bx : Nat) (w : World) (h0 : w.cell? ⟨bx, 0, none⟩ = some (.int .i64 x)) (h1 : w.cell? ⟨bx, 1, none⟩ = some (.int .i64 y)) (h2 : w.cell? ⟨bx, 2, none⟩ = some (.int .i64 z)) (ha : 0 ≤ o.j ∧ o.j ≤ 2) :
    Calls Try.prog 73 #[.agg #[.int .i64 o.i, .int .i64 o.j, .int .i64 o.k, .int .i64 o.ts, .int .i64 o.ta, .int .i64 o.fs, .int .i64 o.fa, .int .i64 o.ns, .int .i64 o.na, .int .i64 o.v, .bool o.en, .string o.tx], .pointer (some ⟨bx, 0, none⟩)] w fun e w' => e = .returned (.bool (con [x, y, z] o)) ∧ Below w.heap.size w w' := by
  have HA := Lib.hid ha
  have lb : bx < w.heap.size := World.block_lt_of_cell? w _ h0
  clear ha
  go_enter Try.func73, Try.ntmps73
  go_wp2_with fail
  refine (vector_contains _ _ _ _ _ _ HA.out).mono ?_
  rintro e w1 ⟨rfl, hb1⟩
  go_wp2
  go_ret
  exact ⟨rfl, ((Below.refl _ _).alloc (Nat.le_refl _) _).trans (hb1.mono (by simp))⟩
theorem keepM (x y z : Int) (o : OpV) (bx : Nat) (w : World) (h0 : w.cell? ⟨bx, 0, none⟩ = some (.int .i64 x)) (h1 : w.cell? ⟨bx, 1, none⟩ = some (.int .i64 y)) (h2 : w.cell? ⟨bx, 2, none⟩ = some (.int .i64 z)) (ha : 0 ≤ o.j ∧ o.j ≤ 2) :
    Calls Try.prog 76 #[.agg #[.int .i64 o.i, .int .i64 o.j, .int .i64 o.k, .int .i64 o.ts, .int .i64 o.ta, .int .i64 o.fs, .int .i64 o.fa, .int .i64 o.ns, .int .i64 o.na, .int .i64 o.v, .bool o.en, .string o.tx], .pointer (some ⟨bx, 0, none⟩)] w fun e w' => e = .returned (.bool (!con [x, y, z] o)) ∧ Below w.heap.size w w' := by
  have HA := Lib.hid ha
  have lb : bx < w.heap.size := World.block_lt_of_cell? w _ h0
  clear ha
  go_enter Try.func76, Try.ntmps76
  go_wp2_with fail
  refine (vector_contains _ _ _ _ _ _ HA.out).mono ?_
  rintro e w1 ⟨rfl, hb1⟩
  go_wp2
  go_ret
  exact ⟨by rfl, ((Below.refl _ _).alloc (Nat.le_refl _) _).trans (hb1.mono (by simp))⟩

end Go.Proofs.Ytkkeaimoplkliaa.LgR
