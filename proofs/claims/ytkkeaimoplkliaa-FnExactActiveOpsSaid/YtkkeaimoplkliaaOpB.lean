/-
  An operation as a record of its fields; the model's validRef; what makes an operation valid, kind by kind. For every argument; no condition.
-/
import Derived.Test.YtkkeaimoplkliaaOpW
namespace Go.Proofs.Ytkkeaimoplkliaa.OpB
open Go.RowKit Go.Proofs.Ytkkeaimoplkliaa.Base Go.Proofs.Ytkkeaimoplkliaa.St Go.Proofs.Ytkkeaimoplkliaa.StB Go.Proofs.Ytkkeaimoplkliaa.OpA Go.Proofs.Ytkkeaimoplkliaa.OpW

/-- The fields of an operation: ID (i, j), Kind k, Target (ts, ta), After (fs, fa), NewParent (ns, na), Value v, Enable, Text. -/
structure OpV where
  i : Int
  j : Int
  k : Int
  ts : Int
  ta : Int
  fs : Int
  fa : Int
  ns : Int
  na : Int
  v : Int
  en : Bool
  tx : ByteArray

def bareB (s : ByteArray) : Bool := s.toList.isEmpty

/-- What a valid operation's fields are, kind by kind, in the order in which the model asks. -/
def opKindOk (o : OpV) : Bool :=
  if o.k = 1 then vref o.i o.j o.ts o.ta true && (vref o.i o.j o.fs o.fa true && (zst o.ns o.na && (inR o.v 32 126 && (!o.en && bareB o.tx))))
  else if o.k = 2 then vref o.i o.j o.ts o.ta false && (zst o.fs o.fa && (zst o.ns o.na && (o.v == 0 && (!o.en && bareB o.tx))))
  else if o.k = 3 then vref o.i o.j o.ts o.ta false && (vref o.i o.j o.fs o.fa false && (zst o.ns o.na && (inR o.v 1 3 && bareB o.tx)))
  else if o.k = 4 then vref o.i o.j o.ts o.ta true && (vref o.i o.j o.fs o.fa true && (zst o.ns o.na && (inR o.v 1 4 && (!o.en && bareB o.tx))))
  else if o.k = 5 then vref o.i o.j o.ts o.ta false && (vref o.i o.j o.fs o.fa true && (vref o.i o.j o.ns o.na true && (o.v == 0 && (!o.en && bareB o.tx))))
  else if o.k = 6 then vref o.i o.j o.ts o.ta false && (zst o.fs o.fa && (zst o.ns o.na && (inR o.v 1 4 && (!o.en && bareB o.tx))))
  else if o.k = 7 then vref o.i o.j o.ts o.ta false && (zst o.fs o.fa && (zst o.ns o.na && (o.v == 0 && (!o.en && bareB o.tx))))
  else if o.k = 8 then vref o.i o.j o.ts o.ta false && (vref o.i o.j o.fs o.fa false && (zst o.ns o.na && (o.v == 0 && (!o.en && wordB o.tx.data.toList))))
  else if o.k = 9 then vref o.i o.j o.ts o.ta false && (zst o.fs o.fa && (zst o.ns o.na && (o.v == 0 && (!o.en && wordB o.tx.data.toList))))
  else if o.k = 10 then vref o.i o.j o.ts o.ta false && (zst o.fs o.fa && (zst o.ns o.na && (o.v == 0 && bareB o.tx)))
  else false
def vop (o : OpV) : Bool := vst o.i o.j && opKindOk o

theorem spec_validRef (o : OpV) (s a : Int) (none' : Bool) (w : World) :
    Calls Try.prog 85 #[.agg #[.int .i64 o.i, .int .i64 o.j, .int .i64 o.k, .int .i64 o.ts, .int .i64 o.ta, .int .i64 o.fs, .int .i64 o.fa, .int .i64 o.ns, .int .i64 o.na, .int .i64 o.v, .bool o.en, .string o.tx], .agg #[.int .i64 s, .int .i64 a], .bool none'] w fun e w' => e = .returned (.bool (vref o.i o.j s a none')) ∧ Below w.heap.size w w' := by
  have B0 : Below w.heap.size w ((w.alloc (.cells #[.int .i64 o.i, .int .i64 o.j, .int .i64 o.k, .int .i64 o.ts, .int .i64 o.ta, .int .i64 o.fs, .int .i64 o.fa, .int .i64 o.ns, .int .i64 o.na, .int .i64 o.v, .bool o.en, .string o.tx] 30)).alloc (.cells #[.int .i64 s, .int .i64 a] 28)) := ((Below.refl _ _).alloc (Nat.le_refl _) _).alloc (by simp) _
  have hz0 : w.heap.size + 1 < ((w.alloc (.cells #[.int .i64 o.i, .int .i64 o.j, .int .i64 o.k, .int .i64 o.ts, .int .i64 o.ta, .int .i64 o.fs, .int .i64 o.fa, .int .i64 o.ns, .int .i64 o.na, .int .i64 o.v, .bool o.en, .string o.tx] 30)).alloc (.cells #[.int .i64 s, .int .i64 a] 28)).heap.size := by simp
  by_cases h0 : s = 0 ∧ a = 0
  · obtain ⟨rfl, rfl⟩ := h0
    go_enter Try.func85, Try.ntmps85
    go_wp2
    go_ret
    exact ⟨ret_bool (by simp [vref, zst]), B0⟩
  · have hz : zst s a = false := by
      unfold zst
      by_cases h1 : s = 0
      · have : ¬ a = 0 := fun h => h0 ⟨h1, h⟩
        simp [this]
      · simp [h1]
    have hq : ((s == 0) && (a == 0)) = false := by
      rw [← hz]
      unfold zst
      rfl
    have hv : vref o.i o.j s a none' = (vst s a && slt s a o.i o.j) := by simp [vref, hz]
    rw [hv]
    by_cases h1 : s = 0
    · have h2 : (a == 0) = false := by simp; exact fun h => h0 ⟨h1, h⟩
      subst h1
      clear hq hz hv h0
      have hst : vst 0 a = false := by simp [vst, inR]
      go_enter Try.func85, Try.ntmps85
      go_wp2_with (first
        | (go_at_call 84; refine (spec_validStamp _ _ _).mono ?_; rintro e w1 ⟨rfl, hb1⟩; obtain ⟨B1, hz1, hc1, hd1⟩ := nextW2 B0 hz0 hb1)
        | (go_at_call 91; refine (spec_stampLess _ _ _ _ _).mono ?_; rintro e w2 ⟨rfl, hb2⟩; obtain ⟨B2, hz2, hc2, hd2⟩ := nextW2 B1 hz1 hb2))
      go_ret
      exact ⟨ret_bool (by simp [hst]), B1⟩
    · have h2 : (s == 0) = false := by simp [h1]
      clear hq hz hv h0 h1
      cases hst : vst s a
      all_goals
        go_enter Try.func85, Try.ntmps85
        go_wp2_with (first
          | (go_at_call 84; refine (spec_validStamp _ _ _).mono ?_; rintro e w1 ⟨rfl, hb1⟩; obtain ⟨B1, hz1, hc1, hd1⟩ := nextW2 B0 hz0 hb1)
          | (go_at_call 91; refine (spec_stampLess _ _ _ _ _).mono ?_; rintro e w2 ⟨rfl, hb2⟩; obtain ⟨B2, hz2, hc2, hd2⟩ := nextW2 B1 hz1 hb2))
        go_ret
        first | exact ⟨ret_bool (by simp), B1⟩ | exact ⟨ret_bool (by simp), B2⟩

end Go.Proofs.Ytkkeaimoplkliaa.OpB
