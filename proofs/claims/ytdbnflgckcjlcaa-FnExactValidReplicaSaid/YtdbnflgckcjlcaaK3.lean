/-
  Contracts of the functions on version vectors: validVector of the model and vectorOf of the program, and what the laws do with slices of integers (toIntS, eqIntS). For every slice of at most 2^20 numbers that reads as a list.
-/
import Derived.Test.YtdbnflgckcjlcaaK1
import Derived.Handy
import Derived.Deep.OwnRows
import Derived.WalkLawsBesides
import Derived.WalkSpells
import Derived.ChangeKeysEq
import Derived.Maps.AppendAt
namespace Go.Proofs.Ytdbnflgckcjlcaa.Vec
open Go.RowKit Go.Proofs.Ytdbnflgckcjlcaa.Base Go.Proofs.Ytdbnflgckcjlcaa.St

/-- The slice at address a reads as the numbers zs. -/
def Rd (w : World) (a : Option Addr) (zs : List Int) : Prop :=
  zs = [] ∨ ∃ b off, a = some ⟨b, off, none⟩ ∧ ∀ i, i < zs.length → w.cell? ⟨b, off + i, none⟩ = some (.int .i64 (zs.getD i 0))

/-- The numbers of a valid version vector. -/
def vv (zs : List Int) : Bool := zs.all (fun z => inR z 0 99) && decide (zs.length = 3)
theorem vv_bad {zs : List Int} {k : Nat} {z : Int} (hk : k < zs.length) (hz : z = zs.getD k 0) (h : inR z 0 99 = false) : vv zs = false := by
  subst hz
  have : zs.all (fun z => inR z 0 99) = false := by
    rw [List.all_eq_false]
    exact ⟨zs.getD k 0, by rw [List.getD_eq_getElem?_getD, List.getElem?_eq_getElem hk]; exact List.getElem_mem hk, by simpa using h⟩
  simp [vv, this]
theorem all_snoc {zs : List Int} {k : Nat} {z : Int} (hk : k < zs.length) (hz : z = zs.getD k 0) (h : inR z 0 99 = true) (ha : (zs.take k).all (fun z => inR z 0 99) = true) : (zs.take (k + 1)).all (fun z => inR z 0 99) = true := by
  subst hz
  rw [List.take_succ_eq_append_getElem hk, List.all_append, ha]
  rw [List.getD_eq_getElem?_getD, List.getElem?_eq_getElem hk] at h
  simpa using h

theorem spec_validVector (a : Option Addr) (c : Nat) (zs : List Int) (w : World) (hr : Rd w a zs) (hl : zs.length ≤ 1048576) :
    Calls Try.prog 97 #[.slice a zs.length c] w fun e w' => e = .returned (.bool (vv zs)) ∧ w = w' := by
  rcases hr with rfl | ⟨b, off, rfl, hc⟩
  · go_enter Try.func97, Try.ntmps97
    go_wp2
    go_rounds 1
    go_ret
    exact ⟨ret_bool (by simp [vv]), rfl⟩
  · have HC := Lib.hid hc
    clear hc
    go_enter Try.func97, Try.ntmps97
    go_wp2
    go_loop [3] (fun i => ∃ k : Nat, k ≤ zs.length ∧ i = .int .i64 k ∧ Hid ((zs.take k).all (fun z => inR z 0 99) = true)) (fun i => zs.length - (intOf i).toNat)
    case atStart => exact ⟨0, Nat.zero_le _, rfl, by simp [Hid]⟩
    case round =>
      obtain ⟨k, hk, rfl, hall⟩ := hrel
      by_cases hlt : k < zs.length
      · obtain ⟨z, hz⟩ : ∃ z, z = zs.getD k 0 := ⟨_, rfl⟩
        have hcz : w.cell? ⟨b, off + k, none⟩ = some (.int .i64 z) := by rw [hz]; exact HC.out k hlt
        have HZ := Lib.hid hz
        clear hz
        cases hi : inR z 0 99
        · go_wp2_with (go_at_call 81; refine (spec_inRange _ _ _ _).mono ?_; rintro e w' ⟨rfl, rfl⟩)
          go_ret
          exact ⟨ret_bool (vv_bad hlt HZ.out hi).symm, rfl⟩
        · have HI := Lib.hid hi
          go_wp2_with (go_at_call 81; refine (spec_inRange _ _ _ _).mono ?_; rintro e w' ⟨rfl, rfl⟩)
          go_round
          case rel => exact ⟨k + 1, by omega, by go_num, all_snoc hlt HZ.out HI.out hall.out⟩
          case measure => simp [intOf]; omega
      · obtain rfl : k = zs.length := by omega
        go_wp2
        go_ret
        have h := hall.out
        rw [List.take_length] at h
        exact ⟨ret_bool (by simp only [vv, h, Bool.true_and]; rw [Bool.eq_iff_iff]; simp; omega), rfl⟩


/-- Entry i of the vector that vectorOf makes. -/
def ent (zs : List Int) (i : Nat) : Int := if vv zs then zs.getD i 0 else 0

end Go.Proofs.Ytdbnflgckcjlcaa.Vec

/-
  What the exact laws do with slices of integers: toIntS copies one into new memory, eqIntS compares two, markIntS writes marks into one of the call's own, heldIntS asks for the marks. For slices of at most 2^20 numbers.
-/
namespace Go.Proofs.Ytdbnflgckcjlcaa.Row
open Go.RowKit Go.Proofs.Ytdbnflgckcjlcaa.Base Go.Proofs.Ytdbnflgckcjlcaa.Vec

/-- Block b is a row of c integers of the call's own; the first n are f 0, f 1, .. -/
def OwnI (w : World) (b c n : Nat) (f : Nat → Int) : Prop :=
  ∃ g : Nat → Value, w.rowIs b 3 c g ∧ n ≤ c ∧ ∀ i, i < n → g i = .int .i64 (f i)
theorem OwnI.lt {w : World} {b c n : Nat} {f : Nat → Int} (h : OwnI w b c n f) : b < w.heap.size := by obtain ⟨g, h, _⟩ := h; exact h.lt
theorem OwnI.cell {w : World} {b c n : Nat} {f : Nat → Int} (h : OwnI w b c n f) {i : Nat} (hi : i < n) : w.cell? ⟨b, i, none⟩ = some (.int .i64 (f i)) := by
  obtain ⟨g, h, hn, hg⟩ := h
  rw [h.cell (by omega), hg i hi]
theorem OwnI.frozen {w : World} {b c n : Nat} {f : Nat → Int} (h : OwnI w b c n f) (i : Nat) : w.frozen? ⟨b, i, none⟩ = false := by
  obtain ⟨g, h, _⟩ := h
  exact h.frozen i
theorem OwnI.of_block {w w' : World} {b c n : Nat} {f : Nat → Int} (h : OwnI w b c n f) (e : w'.heap[b]? = w.heap[b]?) : OwnI w' b c n f := by
  obtain ⟨g, h, hn, hg⟩ := h
  exact ⟨g, h.of_block e, hn, hg⟩
theorem OwnI.below {w w' : World} {b c n : Nat} {f : Nat → Int} (h : OwnI w b c n f) (hb : Below w.heap.size w w') : OwnI w' b c n f := h.of_block (hb.block b h.lt)
theorem OwnI.grown {w w' : World} {b c n g : Nat} {f : Nat → Int} (h : OwnI w b c n f) (hb : w.grownBy w' (some g)) (hne : b ≠ g) : OwnI w' b c n f :=
  h.of_block (hb.block b h.lt (fun e => hne (by injection e)))
theorem OwnI.congr {w : World} {b c n : Nat} {f f' : Nat → Int} (h : OwnI w b c n f) (e : ∀ i, i < n → f i = f' i) : OwnI w b c n f' := by
  obtain ⟨g, h, hn, hg⟩ := h
  exact ⟨g, h, hn, fun i hi => by rw [hg i hi, e i hi]⟩
theorem OwnI.set {w : World} {b c n : Nat} {f : Nat → Int} (h : OwnI w b c n f) (k : Nat) (v : Int) : OwnI (w.setCell ⟨b, k, none⟩ (.int .i64 v)) b c n (fun j => if j = k then v else f j) := by
  obtain ⟨g, h, hn, hg⟩ := h
  refine ⟨_, h.set k _, hn, fun i hi => ?_⟩
  by_cases e : i = k
  · simp [e]
  · simp [e, hg i hi]
theorem OwnI.rd {w : World} {b c : Nat} {zs : List Int} (h : OwnI w b c zs.length (fun i => zs.getD i 0)) : Rd w (some ⟨b, 0, none⟩) zs :=
  .inr ⟨b, 0, rfl, fun i hi => by rw [Nat.zero_add]; exact h.cell hi⟩
theorem Rd.below {w w' : World} {a : Option Addr} {zs : List Int} (h : Rd w a zs) (hb : Below w.heap.size w w') : Rd w' a zs := by
  rcases h with h | ⟨b, off, ha, hc⟩
  · exact .inl h
  · exact .inr ⟨b, off, ha, fun i hi => (hb.cell (World.block_lt_of_cell? w _ (hc i hi))).trans (hc i hi)⟩

/-- The value returned is a slice over a new block with just the numbers zs. -/
def NewInts (w : World) (zs : List Int) (e : Ending) (w' : World) : Prop :=
  ∃ b, e = .returned (.slice (some ⟨b, 0, none⟩) zs.length zs.length) ∧ w.heap.size ≤ b ∧ OwnI w' b zs.length zs.length (fun i => zs.getD i 0) ∧ Below w.heap.size w w'

theorem info_int : (Try.prog.info? 3).map (fun i => (i.zero, i.size, i.bytes)) = some (some (.int .i64 0), 1, 8) := by kernel_rfl

theorem take_succ_eq {xs ys : List Int} {k : Nat} {x y : Int} (hx : x = xs.getD k 0) (hy : y = ys.getD k 0) (h1 : k < xs.length) (h2 : k < ys.length) (h : xs.take k = ys.take k) (e : x = y) : xs.take (k + 1) = ys.take (k + 1) := by
  rw [List.take_succ_eq_append_getElem h1, List.take_succ_eq_append_getElem h2, h]
  rw [List.getD_eq_getElem?_getD, List.getElem?_eq_getElem h1] at hx
  rw [List.getD_eq_getElem?_getD, List.getElem?_eq_getElem h2] at hy
  simp at hx hy
  rw [← hx, ← hy, e]

end Go.Proofs.Ytdbnflgckcjlcaa.Row

/-
  The walks of the laws FnExactValidVector and FnExactVectorContains, and the contracts of the functions that they call. For every argument; no condition.
-/
namespace Go.Proofs.Ytdbnflgckcjlcaa.VecA
open Go.RowKit Go.Proofs.Ytdbnflgckcjlcaa.Base Go.Proofs.Ytdbnflgckcjlcaa.St Go.Proofs.Ytdbnflgckcjlcaa.Vec Go.Proofs.Ytdbnflgckcjlcaa.Row

theorem isRow_rd {w : World} {a : Option Addr} {len cap : Nat} {zs : List Int} (h : IsRow .i64 w a len cap zs) : ∃ xs : List Int, xs.length = len ∧ Rd w a xs := by
  rcases h with ⟨rfl, rfl, rfl, rfl⟩ | ⟨x, rfl, hl, hm, hz, hc, _⟩
  · exact ⟨[], rfl, .inl rfl⟩
  · refine ⟨zs.take len, by simp; omega, ?_⟩
    by_cases h0 : len = 0
    · left; simp [h0]
    · obtain ⟨b, off, spot⟩ := x
      have h1 := hc 0 (by omega)
      have hspot : spot = none := by simpa [Addr.add] using World.cell?_spot h1
      subst hspot
      refine .inr ⟨b, off, rfl, fun i hi => ?_⟩
      have hi' : i < len := by simp at hi; omega
      have h2 := hc i (by omega)
      have e : (zs.take len).getD i 0 = zs.getD i 0 := by simp [List.getD_eq_getElem?_getD, hi']
      rw [e]
      rw [← h2]
      congr 1
      unfold Addr.add
      by_cases i0 : i = 0 <;> simp [i0]

/-- Does the vector contain the stamp? -/
def vcon (zs : List Int) (s a : Int) : Bool := vv zs && (vst s a && decide (s ≤ zs.getD a.toNat 0))

theorem getD_ent (zs : List Int) (hv : vv zs = true) (i : Nat) : [ent zs 0, ent zs 1, ent zs 2].getD i 0 = zs.getD i 0 := by
  have h3 : zs.length = 3 := by simp [vv] at hv; exact hv.2
  match zs, h3 with
  | [x, y, z], _ => simp [ent, hv]

end Go.Proofs.Ytdbnflgckcjlcaa.VecA

/-
  The walk of the law FnExactVectorContains; contracts of VectorLessEqual and of upper and lower of the program's vectors, and the walk of the law FnExactVectorLessEqual. For every argument; no condition.
-/
namespace Go.Proofs.Ytdbnflgckcjlcaa.VecB
open Go.RowKit Go.Proofs.Ytdbnflgckcjlcaa.Base Go.Proofs.Ytdbnflgckcjlcaa.St Go.Proofs.Ytdbnflgckcjlcaa.Vec Go.Proofs.Ytdbnflgckcjlcaa.Row Go.Proofs.Ytdbnflgckcjlcaa.VecA

/-- A box of two cells at block n stands in a world behind a call that made memory only; so does what lay below n, and the slice that came in. -/
theorem keepBox {n : Nat} {s a : Value} {w0 W w2 : World}
    (h : Below n w0 W ∧ n < W.heap.size ∧ W.cell? ⟨n, 0, none⟩ = some s ∧ W.cell? ⟨n, 1, none⟩ = some a) (hb : Below W.heap.size W w2) :
    Below n w0 w2 ∧ n < w2.heap.size ∧ w2.cell? ⟨n, 0, none⟩ = some s ∧ w2.cell? ⟨n, 1, none⟩ = some a := by
  obtain ⟨h0, hz, h1, h2⟩ := h
  have := hb.size
  exact ⟨h0.trans (hb.mono (by omega)), by omega, (hb.cell (by show n < _; omega)).trans h1, (hb.cell (by show n < _; omega)).trans h2⟩
theorem newBox (w : World) (s a : Value) (T : TypeId) :
    Below w.heap.size w (w.alloc (.cells #[s, a] T)).drew ∧ w.heap.size < (w.alloc (.cells #[s, a] T)).drew.heap.size ∧
      (w.alloc (.cells #[s, a] T)).drew.cell? ⟨w.heap.size, 0, none⟩ = some s ∧ (w.alloc (.cells #[s, a] T)).drew.cell? ⟨w.heap.size, 1, none⟩ = some a := by
  refine ⟨((Below.refl _ _).alloc (Nat.le_refl _) _).drew, by simp [World.drew], ?_⟩
  simp [go_sem]

end Go.Proofs.Ytdbnflgckcjlcaa.VecB

/-
  Contracts of upper, lower and entries of the program's vectors, and of VectorLessEqual in both packages, and the walk of the law FnExactVectorLessEqual. For every argument; no condition.
-/
namespace Go.Proofs.Ytdbnflgckcjlcaa.VecC
open Go.RowKit Go.Proofs.Ytdbnflgckcjlcaa.Base Go.Proofs.Ytdbnflgckcjlcaa.St Go.Proofs.Ytdbnflgckcjlcaa.Vec Go.Proofs.Ytdbnflgckcjlcaa.Row Go.Proofs.Ytdbnflgckcjlcaa.VecA

def mx (x y : Int) : Int := if x < y then y else x
def mn (x y : Int) : Int := if y < x then y else x
theorem mx_cases (x y : Int) : (x < y ∧ mx x y = y) ∨ (y ≤ x ∧ mx x y = x) := by
  unfold mx
  by_cases h : x < y
  · exact .inl ⟨h, by simp [h]⟩
  · exact .inr ⟨by omega, by simp [h]⟩
theorem mn_cases (x y : Int) : (y < x ∧ mn x y = y) ∨ (x ≤ y ∧ mn x y = x) := by
  unfold mn
  by_cases h : y < x
  · exact .inl ⟨h, by simp [h]⟩
  · exact .inr ⟨by omega, by simp [h]⟩

end Go.Proofs.Ytdbnflgckcjlcaa.VecC

/-
  Contracts of VectorLessEqual in both packages, and the walk of the law FnExactVectorLessEqual. For every argument; no condition.
-/
namespace Go.Proofs.Ytdbnflgckcjlcaa.VecD
open Go.RowKit Go.Proofs.Ytdbnflgckcjlcaa.Base Go.Proofs.Ytdbnflgckcjlcaa.St Go.Proofs.Ytdbnflgckcjlcaa.Vec Go.Proofs.Ytdbnflgckcjlcaa.Row Go.Proofs.Ytdbnflgckcjlcaa.VecA Go.Proofs.Ytdbnflgckcjlcaa.VecC

def le3 (x0 x1 x2 y0 y1 y2 : Int) : Bool := decide (x0 ≤ y0) && (decide (x1 ≤ y1) && decide (x2 ≤ y2))
def vle (xs ys : List Int) : Bool := vv xs && (vv ys && le3 (ent xs 0) (ent xs 1) (ent xs 2) (ent ys 0) (ent ys 1) (ent ys 2))
theorem three {zs : List Int} (h : vv zs = true) : ∃ x y z, zs = [x, y, z] := by
  have h3 : zs.length = 3 := by simp [vv] at h; exact h.2
  match zs, h3 with
  | [x, y, z], _ => exact ⟨x, y, z, rfl⟩
theorem Rd.three {w : World} {a : Option Addr} {x y z : Int} (h : Rd w a [x, y, z]) : ∃ b off, a = some ⟨b, off, none⟩ ∧ w.cell? ⟨b, off, none⟩ = some (.int .i64 x) ∧ w.cell? ⟨b, off + 1, none⟩ = some (.int .i64 y) ∧ w.cell? ⟨b, off + 2, none⟩ = some (.int .i64 z) := by
  rcases h with h | ⟨b, off, ha, hc⟩
  · cases h
  · exact ⟨b, off, ha, hc 0 (by simp), hc 1 (by simp), hc 2 (by simp)⟩

theorem le3_upper (x0 x1 x2 y0 y1 y2 : Int) : (#[Value.int .i64 (mx x0 y0), Value.int .i64 (mx x1 y1), Value.int .i64 (mx x2 y2)] = #[Value.int .i64 y0, Value.int .i64 y1, Value.int .i64 y2]) ↔ le3 x0 x1 x2 y0 y1 y2 = true := by
  have e : ∀ x y : Int, mx x y = y ↔ x ≤ y := fun x y => by unfold mx; by_cases h : x < y <;> simp [h] <;> omega
  simp [le3, e]

theorem cells_int : Try.prog.cellsOf 3 = 1 := by kernel_rfl
/-- Two boxes of three cells stand in a world behind a call that made memory only; so does what lay below n. -/
theorem keepThrees {n b d : Nat} {x0 x1 x2 y0 y1 y2 : Value} {w0 W w2 : World}
    (h : Below n w0 W ∧ n ≤ W.heap.size ∧ b < W.heap.size ∧ d < W.heap.size ∧ W.cell? ⟨b, 0, none⟩ = some x0 ∧ W.cell? ⟨b, 1, none⟩ = some x1 ∧ W.cell? ⟨b, 2, none⟩ = some x2 ∧
      W.cell? ⟨d, 0, none⟩ = some y0 ∧ W.cell? ⟨d, 1, none⟩ = some y1 ∧ W.cell? ⟨d, 2, none⟩ = some y2) (hb : Below W.heap.size W w2) :
    Below n w0 w2 ∧ n ≤ w2.heap.size ∧ b < w2.heap.size ∧ d < w2.heap.size ∧ w2.cell? ⟨b, 0, none⟩ = some x0 ∧ w2.cell? ⟨b, 1, none⟩ = some x1 ∧ w2.cell? ⟨b, 2, none⟩ = some x2 ∧
      w2.cell? ⟨d, 0, none⟩ = some y0 ∧ w2.cell? ⟨d, 1, none⟩ = some y1 ∧ w2.cell? ⟨d, 2, none⟩ = some y2 := by
  obtain ⟨h0, hn, hz, hz', h1, h2, h3, h4, h5, h6⟩ := h
  have := hb.size
  exact ⟨h0.trans (hb.mono (by omega)), by omega, by omega, by omega, (hb.cell (by show b < _; omega)).trans h1, (hb.cell (by show b < _; omega)).trans h2, (hb.cell (by show b < _; omega)).trans h3,
    (hb.cell (by show d < _; omega)).trans h4, (hb.cell (by show d < _; omega)).trans h5, (hb.cell (by show d < _; omega)).trans h6⟩

end Go.Proofs.Ytdbnflgckcjlcaa.VecD

/-
  Contracts of NextStamp in both packages, and the walk of the law FnExactNextStamp. For every argument; no condition.
-/
namespace Go.Proofs.Ytdbnflgckcjlcaa.VecE
open Go.RowKit Go.Proofs.Ytdbnflgckcjlcaa.Base Go.Proofs.Ytdbnflgckcjlcaa.St Go.Proofs.Ytdbnflgckcjlcaa.Vec Go.Proofs.Ytdbnflgckcjlcaa.Row Go.Proofs.Ytdbnflgckcjlcaa.VecA Go.Proofs.Ytdbnflgckcjlcaa.VecC Go.Proofs.Ytdbnflgckcjlcaa.VecD

def top (x y z : Int) : Int := mx (mx x y) z
def nOk (zs : List Int) (who : Int) : Bool := vv zs && (inR who 0 2 && !(top (ent zs 0) (ent zs 1) (ent zs 2) == 99))
def nSeq (zs : List Int) (who : Int) : Int := if nOk zs who then top (ent zs 0) (ent zs 1) (ent zs 2) + 1 else 0
def nWho (zs : List Int) (who : Int) : Int := if nOk zs who then who else 0
theorem top_bd {zs : List Int} (h : vv zs = true) : 0 ≤ top (ent zs 0) (ent zs 1) (ent zs 2) ∧ top (ent zs 0) (ent zs 1) (ent zs 2) ≤ 99 := by
  obtain ⟨x, y, z, rfl⟩ := three h
  have hb := h
  simp [vv, inR_iff] at hb
  have e : ∀ i, ent [x, y, z] i = [x, y, z].getD i 0 := fun i => by simp [ent, h]
  simp only [e]
  show 0 ≤ top x y z ∧ top x y z ≤ 99
  unfold top
  rcases mx_cases x y with ⟨k0, e0⟩ | ⟨k0, e0⟩ <;> rw [e0]
  · rcases mx_cases y z with ⟨k1, e1⟩ | ⟨k1, e1⟩ <;> rw [e1] <;> omega
  · rcases mx_cases x z with ⟨k1, e1⟩ | ⟨k1, e1⟩ <;> rw [e1] <;> omega

theorem top_zero {x y z : Int} (h : 0 ≤ x) : mx (mx (mx 0 x) y) z = top x y z := by
  have : mx 0 x = x := by unfold mx; by_cases h1 : 0 < x <;> simp [h1]; omega
  rw [this]; rfl

set_option maxHeartbeats 4000000 in
theorem spec_NextStamp (a : Option Addr) (c : Nat) (zs : List Int) (who : Int) (w : World) (hr : Rd w a zs) (hl : zs.length ≤ 1048576) :
    Calls Try.prog 64 #[.slice a zs.length c, .int .i64 who] w fun e w' => e = .returned (.agg #[.int .i64 (nSeq zs who), .int .i64 (nWho zs who)]) ∧ Below w.heap.size w w' := by
  have hc := fun w h => spec_validVector a c zs w h hl
  cases hv : vv zs
  · have e1 : nSeq zs who = 0 := by simp [nSeq, nOk, hv]
    have e2 : nWho zs who = 0 := by simp [nWho, nOk, hv]
    rw [e1, e2]
    rw [hv] at hc
    have HC := Lib.hid hc
    clear hc e1 e2 hv
    go_enter Try.func64, Try.ntmps64
    go_wp2_with fail
    refine (HC.out _ (Rd.below hr ((Below.refl _ _).alloc (Nat.le_refl _) _))).mono ?_
    rintro e w1 ⟨rfl, rfl⟩
    go_wp2
    go_returns
    refine ⟨rfl, ?_⟩
    go_grown
  · cases hw : inR who 0 2
    · have e1 : nSeq zs who = 0 := by simp [nSeq, nOk, hw]
      have e2 : nWho zs who = 0 := by simp [nWho, nOk, hw]
      rw [e1, e2]
      rw [hv] at hc
      have HC := Lib.hid hc
      clear hc e1 e2 hv
      go_enter Try.func64, Try.ntmps64
      go_wp2_with fail
      refine (HC.out _ (Rd.below hr ((Below.refl _ _).alloc (Nat.le_refl _) _))).mono ?_
      rintro e w1 ⟨rfl, rfl⟩
      go_wp2_with fail
      refine (spec_inRange _ _ _ _).mono ?_
      rintro e w' ⟨rfl, rfl⟩
      go_wp2
      go_returns
      refine ⟨rfl, ?_⟩
      go_grown
    · have hbd := top_bd hv
      obtain ⟨x, y, z, rfl⟩ := three hv
      have en : ∀ i, ent [x, y, z] i = [x, y, z].getD i 0 := fun i => by simp [ent, hv]
      have hx : 0 ≤ x := by have h := hv; simp [vv, inR_iff] at h; omega
      have et : top (ent [x, y, z] 0) (ent [x, y, z] 1) (ent [x, y, z] 2) = top x y z := by simp only [en]; rfl
      rw [et] at hbd
      have HE : Hid (nSeq [x, y, z] who = (if top x y z = 99 then 0 else top x y z + 1) ∧ nWho [x, y, z] who = (if top x y z = 99 then 0 else who)) := by
        unfold nSeq nWho nOk
        rw [et, hv, hw]
        by_cases h9 : top x y z = 99 <;> simp [Hid, h9]
      generalize hns : nSeq [x, y, z] who = ns at HE ⊢
      generalize hnw : nWho [x, y, z] who = nw at HE ⊢
      rw [hv] at hc
      have HC := Lib.hid hc
      have Hr := Lib.hid hr
      obtain ⟨b, off, rfl, p0, p1, p2⟩ := Rd.three hr
      have lb : b < w.heap.size := World.block_lt_of_cell? w _ p0
      clear hc hns hnw hv en et hr hl
      have key : ∀ t : Int, mx (mx (mx 0 x) y) z = t → Hid (ns = (if t = 99 then 0 else t + 1) ∧ nw = (if t = 99 then 0 else who)) ∧ (0 ≤ t ∧ t ≤ 99) := by
        rintro t rfl
        rw [top_zero hx]
        exact ⟨HE, hbd⟩
      have HK := Lib.hid key
      clear key HE hbd
      have fin : ∀ t : Int, Hid (mx (mx (mx 0 x) y) z = t) → Hid ((t = 99 ∧ ns = 0 ∧ nw = 0) ∨ (t < 99 ∧ 0 ≤ t ∧ ns = t + 1 ∧ nw = who)) := by
        intro t ht
        obtain ⟨k, k1, k2⟩ := HK.out t ht.out
        obtain ⟨k3, k4⟩ := k.out
        by_cases h9 : t = 99
        · exact .inl ⟨h9, by simpa [h9] using k3, by simpa [h9] using k4⟩
        · exact .inr ⟨by omega, k1, by simpa [h9] using k3, by simpa [h9] using k4⟩
      have HF := Lib.hid fin
      clear fin HK
      rcases mx_cases 0 x with ⟨k0, e0⟩ | ⟨k0, e0⟩
      all_goals
        rcases mx_cases (mx 0 x) y with ⟨k1, e1⟩ | ⟨k1, e1⟩
        all_goals
          rcases mx_cases (mx (mx 0 x) y) z with ⟨k2, e2⟩ | ⟨k2, e2⟩
          all_goals
            first | rw [e1, e0] at k2 | rw [e1] at k2
            rw [e0] at k1
            have hq := HF.out _ (Lib.hid e2)
            first | rw [e1, e0] at hq | rw [e1] at hq | skip
            clear e0 e1 e2 HF
            rcases hq.out with ⟨t9, hs9, hw9⟩ | ⟨t9, t0, hs9, hw9⟩
            all_goals try (exfalso; omega)
            all_goals
              rw [hs9, hw9]
              clear hq hs9 hw9
              go_enter Try.func64, Try.ntmps64
              go_wp2_with fail
              refine (HC.out _ (Rd.below Hr.out ((Below.refl _ _).alloc (Nat.le_refl _) _))).mono ?_
              rintro e w1 ⟨rfl, rfl⟩
              go_wp2_with fail
              refine (spec_inRange _ _ _ _).mono ?_
              rintro e w' ⟨rfl, rfl⟩
              go_wp2
              refine wp_loop_rounds 4 ?_
              rw [rounds_succ]
              go_wp2
              rw [rounds_succ]
              go_wp2
              rw [rounds_succ]
              go_wp2
              rw [rounds_succ]
              go_wp2
              go_returns
              refine ⟨rfl, ?_⟩
              go_grown

theorem eqStamp (s a t b : Int) (w : World) :
    Calls Try.prog 75 #[.agg #[.int .i64 s, .int .i64 a], .agg #[.int .i64 t, .int .i64 b]] w fun e w' => e = .returned (.bool (decide (s = t) && decide (a = b))) ∧ Below w.heap.size w w' := by
  by_cases h : s = t
  · by_cases h' : a = b
    · have hr : (decide (s = t) && decide (a = b)) = true := by simp [h, h']
      rw [hr]
      clear hr
      subst h; subst h'
      go_enter Try.func75, Try.ntmps75
      go_wp2
      go_ret
      exact ⟨rfl, ((Below.refl _ _).alloc (Nat.le_refl _) _).alloc (by simp) _⟩
    · have hr : (decide (s = t) && decide (a = b)) = false := by simp [h']
      have hne : (a != b) = true := by simp [h']
      rw [hr]
      clear hr h'
      subst h
      go_enter Try.func75, Try.ntmps75
      go_wp2
      go_ret
      exact ⟨rfl, ((Below.refl _ _).alloc (Nat.le_refl _) _).alloc (by simp) _⟩
  · have hr : (decide (s = t) && decide (a = b)) = false := by simp [h]
    have hne : (s != t) = true := by simp [h]
    rw [hr]
    clear hr h
    go_enter Try.func75, Try.ntmps75
    go_wp2
    go_ret
    exact ⟨rfl, ((Below.refl _ _).alloc (Nat.le_refl _) _).alloc (by simp) _⟩

end Go.Proofs.Ytdbnflgckcjlcaa.VecE

/-
  Rows of integers that a call hands back (nil, or new memory), and what the exact laws do to them: markIntS and heldIntS; slices.Clone of three integers. For slices of at most 2^20 numbers and small marks.
-/
namespace Go.Proofs.Ytdbnflgckcjlcaa.RowB
open Go.RowKit Go.Proofs.Ytdbnflgckcjlcaa.Base Go.Proofs.Ytdbnflgckcjlcaa.Vec Go.Proofs.Ytdbnflgckcjlcaa.Row

/-- The slice at address a (capacity c) is nil and empty, or the head of a row of the call's own, from block lo on; its first n numbers are f 0, f 1, .. -/
def RowF (lo : Nat) (w : World) (a : Option Addr) (c n : Nat) (f : Nat → Int) : Prop :=
  (a = none ∧ n = 0) ∨ ∃ b, a = some ⟨b, 0, none⟩ ∧ lo ≤ b ∧ OwnI w b c n f
/-- The block that the slice lies in. -/
def blk (a : Option Addr) : Option Nat := a.map (·.block)
theorem RowF.rd {lo : Nat} {w : World} {a : Option Addr} {c : Nat} {zs : List Int} (h : RowF lo w a c zs.length (fun i => zs.getD i 0)) : Rd w a zs := by
  rcases h with ⟨_, h0⟩ | ⟨b, rfl, _, h⟩
  · exact .inl (List.eq_nil_of_length_eq_zero h0)
  · exact h.rd
theorem RowF.below {lo : Nat} {w w' : World} {a : Option Addr} {c n : Nat} {f : Nat → Int} (h : RowF lo w a c n f) (hb : Below w.heap.size w w') : RowF lo w' a c n f := by
  rcases h with h | ⟨b, ha, hl, h⟩
  · exact .inl h
  · exact .inr ⟨b, ha, hl, h.below hb⟩
theorem RowF.hi {lo : Nat} {w : World} {a : Option Addr} {c n : Nat} {f : Nat → Int} (h : RowF lo w a c n f) : ∀ b, blk a = some b → lo ≤ b ∧ b < w.heap.size := by
  rcases h with ⟨rfl, _⟩ | ⟨b, rfl, hl, h⟩
  · intro b hb; cases hb
  · intro b' hb
    obtain rfl : b = b' := by simpa [blk] using hb
    exact ⟨hl, h.lt⟩
theorem RowF.grown {lo : Nat} {w w' : World} {a : Option Addr} {c n : Nat} {f : Nat → Int} {r : Option Nat} (h : RowF lo w a c n f) (hb : w.grownBy w' r) (hne : ∀ b, blk a = some b → r ≠ some b) : RowF lo w' a c n f := by
  rcases h with h | ⟨b, rfl, hl, h⟩
  · exact .inl h
  · exact .inr ⟨b, rfl, hl, h.of_block (hb.block b h.lt (fun e => hne b rfl e.symm))⟩
theorem Rd.grown {w w' : World} {a : Option Addr} {zs : List Int} {r : Option Nat} (h : Rd w a zs) (hb : w.grownBy w' r) (hne : ∀ b, blk a = some b → r ≠ some b) : Rd w' a zs := by
  rcases h with h | ⟨b, off, rfl, hc⟩
  · exact .inl h
  · exact .inr ⟨b, off, rfl, fun i hi => (World.cell?_of_block (hb.block b (World.block_lt_of_cell? w _ (hc i hi)) (fun e => hne b rfl e.symm))).trans (hc i hi)⟩
theorem below_grown {B : Nat} {a w w' : World} {r : Option Nat} (h : Below B a w) (hg : w.grownBy w' r) (hB : B ≤ w.heap.size) (hr : ∀ b, r = some b → B ≤ b) : Below B a w' := h.grown hg hB hr

/-- The value returned is the slice of zs: nil, or in new memory. -/
def Gives (w : World) (zs : List Int) (e : Ending) (w' : World) : Prop :=
  ∃ a c, e = .returned (.slice a zs.length c) ∧ RowF w.heap.size w' a c zs.length (fun i => zs.getD i 0) ∧ Below w.heap.size w w'

theorem owned {base : Nat} {w : World} {v : Value} {zs : List Int} (h : w.ownsRow base 3 1 v zs.length (zs.map (Value.int .i64))) :
    ∃ a c, v = .slice a zs.length c ∧ RowF base w a c zs.length (fun i => zs.getD i 0) := by
  rcases h.2 with ⟨rfl, h0⟩ | ⟨g, cap, cur, rfl, hb, hh, hn, hm, hs, ht⟩
  · exact ⟨none, 0, by rw [h0], .inl ⟨rfl, h0⟩⟩
  · refine ⟨_, _, rfl, .inr ⟨g, rfl, hb, fun i => cur.getD i undef, ⟨cur, hh, by simpa using hs, fun i hi => ?_⟩, hn, fun i hi => ?_⟩⟩
    · show cur[i]? = some (cur.getD i undef)
      rw [Array.getD_eq_getD_getElem?, Array.getElem?_eq_getElem (by omega)]; rfl
    · have e : (cur.toList.take (zs.length * 1))[i]? = (zs.map (Value.int .i64))[i]? := by rw [ht]
      rw [Nat.mul_one, List.getElem?_take_of_lt hi, List.getElem?_map] at e
      rw [List.getElem?_eq_getElem hi] at e
      show cur.getD i undef = Value.int .i64 (zs.getD i 0)
      rw [Array.getD_eq_getD_getElem?, List.getD_eq_getElem?_getD, List.getElem?_eq_getElem hi]
      rw [← Array.getElem?_toList, e]
      rfl

end Go.Proofs.Ytdbnflgckcjlcaa.RowB

/-
  slices.Clone of three integers, entries of a vector, VectorMax and VectorMin of both packages: each gives the slice of the greater (smaller) entries in new memory, or nil. For slices of at most 2^20 numbers.
-/
namespace Go.Proofs.Ytdbnflgckcjlcaa.RowC
open Go.RowKit Go.Proofs.Ytdbnflgckcjlcaa.Base Go.Proofs.Ytdbnflgckcjlcaa.St Go.Proofs.Ytdbnflgckcjlcaa.Vec Go.Proofs.Ytdbnflgckcjlcaa.Row Go.Proofs.Ytdbnflgckcjlcaa.RowB Go.Proofs.Ytdbnflgckcjlcaa.VecC Go.Proofs.Ytdbnflgckcjlcaa.VecD

theorem ownsEmpty (w : World) : (w.alloc (.cells #[] 3)).ownsRow w.heap.size 3 1 (.slice (some ⟨w.heap.size, 0, none⟩) 0 0) 0 [] :=
  World.ownsRow_lit w #[] 0 (Nat.le_refl _) (by simp [maxLen]) (by simp)

theorem cells3 {w w' : World} {b off : Nat} {x y z : Int} (hb : Below w.heap.size w w') (lb : b < w.heap.size) (h0 : w.cell? ⟨b, off, none⟩ = some (.int .i64 x)) (h1 : w.cell? ⟨b, off + 1, none⟩ = some (.int .i64 y)) (h2 : w.cell? ⟨b, off + 2, none⟩ = some (.int .i64 z)) :
    ∀ j u, ([x, y, z].map (Value.int .i64))[j]? = some u → w'.cell? ((⟨b, off, none⟩ : Addr).add j) = some u := by
  intro j u hj
  have e : ((⟨b, off, none⟩ : Addr).add j) = ⟨b, off + j, none⟩ := by unfold Addr.add; by_cases j0 : j = 0 <;> simp [j0]
  rw [e, hb.cell (by exact lb)]
  match j, hj with
  | 0, hj => simpa using h0.trans (by simpa using hj)
  | 1, hj => simpa using h1.trans (by simpa using hj)
  | 2, hj => simpa using h2.trans (by simpa using hj)
  | j + 3, hj => simp at hj

/-- The list that VectorMax and VectorMin give. -/
def vmap (m : Int → Int → Int) (xs ys : List Int) : List Int := if vv xs && vv ys then [m (ent xs 0) (ent ys 0), m (ent xs 1) (ent ys 1), m (ent xs 2) (ent ys 2)] else []
theorem RowF.lower {lo lo' : Nat} {w : World} {a : Option Addr} {c n : Nat} {f : Nat → Int} (h : RowF lo w a c n f) (hl : lo' ≤ lo) : RowF lo' w a c n f := by
  rcases h with h | ⟨b, ha, hb, h⟩
  · exact .inl h
  · exact .inr ⟨b, ha, by omega, h⟩
theorem gives_nil (w : World) : Gives w [] (.returned (.slice none 0 0)) w := ⟨none, 0, rfl, .inl ⟨rfl, rfl⟩, Below.refl _ _⟩

end Go.Proofs.Ytdbnflgckcjlcaa.RowC
