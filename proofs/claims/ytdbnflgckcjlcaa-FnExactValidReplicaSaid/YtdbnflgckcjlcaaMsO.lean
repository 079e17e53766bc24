/-
  How a slice of messages and a replica that come in as arguments read. For every argument.
-/
import Derived.Test.YtdbnflgckcjlcaaMsC
import Derived.Test.YtdbnflgckcjlcaaLgOpen
import Derived.Deep.Slices
namespace Go.Proofs.Ytdbnflgckcjlcaa.MsO
open Go.ChangeShapes Go.WideShapes Go.ChangeAt Go.RowKit Go.Joins Go.Deep Go.Proofs.Ytdbnflgckcjlcaa.Base Go.Proofs.Ytdbnflgckcjlcaa.OpB Go.Proofs.Ytdbnflgckcjlcaa.LgA Go.Proofs.Ytdbnflgckcjlcaa.Open Go.Proofs.Ytdbnflgckcjlcaa.LgOpen Go.Proofs.Ytdbnflgckcjlcaa.MsA
open Go.Proofs.Ytdbnflgckcjlcaa.GsA (Elt RdG OwnG)
set_option maxRecDepth 100000
set_option linter.unusedVariables false

theorem cells_msg : Try.prog.cellsOf 114 = 13 := by kernel_rfl
theorem cells_rep : Try.prog.cellsOf 45 = 3 := by kernel_rfl
theorem cells_opsS : Try.prog.cellsOf 27 = 1 := by kernel_rfl
theorem cells_msgS : Try.prog.cellsOf 43 = 1 := by kernel_rfl
instance : Inhabited MsgV := ⟨zMsg⟩

section
variable {H : Type} {enc : TypeId × Value → H} {w : World} {base : Nat} {spare : Nat → Bool} {held : Bool}

theorem msg_cells {fuel : Nat} {c : List Value} {x : DataW H × List MemPlace} (hc : c.length = 13) (h : DataW.trod enc Try.prog w base spare held fuel 114 c = some x) :
    ∃ y : MsgV, c = LMsg y ∧ y.o.tx.size ≤ maxLen := by
  obtain ⟨xs, n, _, _, _, hl, hg⟩ := DataW.trod_struct Try.underlying114 h
  have hl2 : xs.length = 2 := hl
  match c, hc with
  | [c0, c1, c2, c3, c4, c5, c6, c7, c8, c9, c10, c11, c12], _ =>
    match xs, hl2 with
    | [y0, y1], _ =>
      have g0 := hg 0 _ rfl
      have g1 := hg 1 _ rfl
      simp [cells_int, cells_op] at g0 g1
      obtain ⟨o, e, ht⟩ := op_cells rfl g0
      obtain ⟨p, e1, _, _⟩ := DataW.trod_int Try.underlying3 g1
      obtain rfl : c12 = .int .i64 p := by simpa using e1
      refine ⟨⟨o, p⟩, ?_, ht⟩
      have e' : [c0, c1, c2, c3, c4, c5, c6, c7, c8, c9, c10, c11] ++ [Value.int .i64 p] = opL o ++ [.int .i64 p] := by rw [e]; rfl
      exact e'

theorem gen_ops {fuel : Nat} {c1 : Value} {x : DataW H × List MemPlace} (hf : DataW.trod enc Try.prog w base spare held fuel 27 [c1] = some x) :
    ∃ a os c, c1 = .slice a os.length c ∧ RdO w a os ∧ os.length ≤ maxLen ∧ ∀ k, k < os.length → (os.getD k zop).tx.size ≤ maxLen := by
  rcases open_slice Try.underlying27 hf with ⟨hcs, _⟩ | ⟨x, l, cc, m, n, D, Pl, hcs, _, hl, hm, hmm, _, hi⟩
  · obtain rfl : c1 = .slice none 0 0 := by simpa using hcs
    exact ⟨none, [], 0, rfl, .inl rfl, by simp, by simp⟩
  · obtain rfl : c1 = .slice (some x) l cc := by simpa using hcs
    have hle : l ≤ m := by rw [hmm]; split <;> omega
    rw [cells_op] at hi
    obtain ⟨f, hfn⟩ := choose_lt (α := OpV) (n := l) (p := fun i o => (∀ j v, (opL o)[j]? = some v → w.cell? ((x.add (i * 12)).add j) = some v) ∧ o.tx.size ≤ maxLen) (fun i hlt => by
      obtain ⟨cs', h1, h2⟩ := hi i (by omega)
      obtain ⟨_, hlen, hat⟩ := World.cells?_some h1
      obtain ⟨o, rfl, ht⟩ := op_cells hlen h2
      exact ⟨o, fun j v hj => (hat j (by have := (List.getElem?_eq_some_iff.1 hj).1; simpa [opL] using this)).trans hj, ht⟩)
    have hlen : ((List.range l).map f).length = l := by simp
    have hget : ∀ k, k < l → ((List.range l).map f).getD k zop = f k := fun k hk => by simp [List.getD_eq_getElem?_getD, hk]
    refine ⟨some x, (List.range l).map f, cc, by rw [hlen], ?_, by rw [hlen]; omega, fun k hk => by rw [hlen] at hk; rw [hget k hk]; exact (hfn k hk).2⟩
    by_cases h0 : l = 0
    · left; simp [h0]
    · obtain ⟨b, off, spot⟩ := x
      have h1 := (hfn 0 (by omega)).1 0 _ rfl
      have hspot : spot = none := by simpa [Addr.add] using World.cell?_spot h1
      subst hspot
      refine .inr ⟨b, off, rfl, fun k hk => ?_⟩
      rw [hlen] at hk
      show w.rangeAt b (off + k * 12) (opL (((List.range l).map f).getD k zop))
      rw [hget k hk]
      intro j v hj
      have := (hfn k hk).1 j v hj
      rw [Addr.add_mid, Addr.add_mid] at this
      exact this

theorem gen_msgs {fuel : Nat} {c1 : Value} {x : DataW H × List MemPlace} (hf : DataW.trod enc Try.prog w base spare held fuel 43 [c1] = some x) :
    ∃ a os c, c1 = .slice a os.length c ∧ RdG EMsg w a os ∧ os.length ≤ maxLen ∧ ∀ k, k < os.length → (os.getD k zMsg).o.tx.size ≤ maxLen := by
  rcases open_slice Try.underlying43 hf with ⟨hcs, _⟩ | ⟨x, l, cc, m, n, D, Pl, hcs, _, hl, hm, hmm, _, hi⟩
  · obtain rfl : c1 = .slice none 0 0 := by simpa using hcs
    exact ⟨none, [], 0, rfl, .inl rfl, by simp, by simp⟩
  · obtain rfl : c1 = .slice (some x) l cc := by simpa using hcs
    have hle : l ≤ m := by rw [hmm]; split <;> omega
    rw [cells_msg] at hi
    obtain ⟨f, hfn⟩ := choose_lt (α := MsgV) (n := l) (p := fun i o => (∀ j v, (LMsg o)[j]? = some v → w.cell? ((x.add (i * 13)).add j) = some v) ∧ o.o.tx.size ≤ maxLen) (fun i hlt => by
      obtain ⟨cs', h1, h2⟩ := hi i (by omega)
      obtain ⟨_, hlen, hat⟩ := World.cells?_some h1
      obtain ⟨o, rfl, ht⟩ := msg_cells hlen h2
      exact ⟨o, fun j v hj => (hat j (by have := (List.getElem?_eq_some_iff.1 hj).1; simpa [LMsg] using this)).trans hj, ht⟩)
    have hlen : ((List.range l).map f).length = l := by simp
    have hget : ∀ k, k < l → ((List.range l).map f).getD k zMsg = f k := fun k hk => by simp [List.getD_eq_getElem?_getD, hk]
    refine ⟨some x, (List.range l).map f, cc, by rw [hlen], ?_, by rw [hlen]; omega, fun k hk => by rw [hlen] at hk; rw [hget k hk]; exact (hfn k hk).2⟩
    by_cases h0 : l = 0
    · left; simp [h0]
    · obtain ⟨b, off, spot⟩ := x
      have h1 := (hfn 0 (by omega)).1 0 _ rfl
      have hspot : spot = none := by simpa [Addr.add] using World.cell?_spot h1
      subst hspot
      refine .inr ⟨b, off, rfl, fun k hk => ?_⟩
      rw [hlen] at hk
      show w.rangeAt b (off + k * 13) (LMsg (((List.range l).map f).getD k zMsg))
      rw [hget k hk]
      intro j v hj
      have := (hfn k hk).1 j v hj
      rw [Addr.add_mid, Addr.add_mid] at this
      exact this

theorem open_rep {r : Reach} {b0 : Nat} {v : Value} {d : DataW H} {p : List MemPlace} (hv : Value.okWide Try.prog w r b0 45 v) (h : DataW.Trod enc Try.prog w base spare held 45 v d p) :
    ∃ (au : Int) (a : Option Addr) (os : List OpV) (c : Nat) (a2 : Option Addr) (ms : List MsgV) (c2 : Nat), v = .agg #[.int .i64 au, .slice a os.length c, .slice a2 ms.length c2] ∧ RdO w a os ∧ os.length ≤ maxLen ∧ (∀ k, k < os.length → (os.getD k zop).tx.size ≤ maxLen) ∧
      RdG EMsg w a2 ms ∧ ms.length ≤ maxLen ∧ ∀ k, k < ms.length → (ms.getD k zMsg).o.tx.size ≤ maxLen := by
  obtain ⟨cs, rfl, hsz⟩ := okWide_struct Try.underlying45 hv
  obtain ⟨fuel, hf⟩ := h
  have hf2 : DataW.trod enc Try.prog w base spare held fuel 45 cs.toList = some (d, p) := by simpa [Value.cells] using hf
  obtain ⟨xs, n, _, _, _, hl, hg⟩ := DataW.trod_struct Try.underlying45 hf2
  have hl2 : xs.length = 3 := hl
  rw [cells_rep] at hsz
  obtain ⟨l⟩ := cs
  match l, hsz with
  | [c0, c1, c2], _ =>
    match xs, hl2 with
    | [y0, y1, y2], _ =>
      have g0 := hg 0 _ rfl
      have g1 := hg 1 _ rfl
      have g2 := hg 2 _ rfl
      simp [cells_int, cells_opsS, cells_msgS] at g0 g1 g2
      obtain ⟨au, e0, _, _⟩ := DataW.trod_int Try.underlying3 g0
      obtain rfl : c0 = .int .i64 au := by simpa using e0
      obtain ⟨a, os, c, rfl, h1, h2, h3⟩ := gen_ops g1
      obtain ⟨a2, ms, c', rfl, k1, k2, k3⟩ := gen_msgs g2
      exact ⟨au, a, os, c, a2, ms, c', rfl, h1, h2, h3, k1, k2, k3⟩
end

end Go.Proofs.Ytdbnflgckcjlcaa.MsO
