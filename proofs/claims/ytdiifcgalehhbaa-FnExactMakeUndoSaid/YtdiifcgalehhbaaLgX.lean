/-
  LogVector of the program: contracts of with, entries and LogVector. For slices that read as a list of at most 2^20 operations.
-/
import Derived.Test.YtdiifcgalehhbaaK5
import Derived.RegionTactic
import Derived.BigRegion
import Derived.Outline
namespace Go.Proofs.Ytdiifcgalehhbaa.LgX
open Go.RowKit Go.Proofs.Ytdiifcgalehhbaa.Base Go.Proofs.Ytdiifcgalehhbaa.St Go.Proofs.Ytdiifcgalehhbaa.StB Go.Proofs.Ytdiifcgalehhbaa.Vec Go.Proofs.Ytdiifcgalehhbaa.Row Go.Proofs.Ytdiifcgalehhbaa.RowB Go.Proofs.Ytdiifcgalehhbaa.RowC Go.Proofs.Ytdiifcgalehhbaa.OpA Go.Proofs.Ytdiifcgalehhbaa.OpB Go.Proofs.Ytdiifcgalehhbaa.LgA Go.Proofs.Ytdiifcgalehhbaa.LgB Go.Proofs.Ytdiifcgalehhbaa.LgC Go.Proofs.Ytdiifcgalehhbaa.LgF Go.Proofs.Ytdiifcgalehhbaa.LgH Go.Proofs.Ytdiifcgalehhbaa.LgI Go.Proofs.Ytdiifcgalehhbaa.LgP Go.Proofs.Ytdiifcgalehhbaa.LgS Go.Proofs.Ytdiifcgalehhbaa.LgW
set_option linter.unusedVariables false

def mxv (x s : Int) : Int := if x < s then s else x
set_option maxHeartbeats 1000000 in
theorem with0 (x y z s : Int) (w : World) :
    Calls Try.prog 52 #[.agg #[.int .i64 x, .int .i64 y, .int .i64 z], .agg #[.int .i64 s, .int .i64 0]] w fun e w' => e = .returned (.agg #[.int .i64 (mxv x s), .int .i64 y, .int .i64 z]) ∧ Below w.heap.size w w' := by
  by_cases h : x < s
  · have hm : mxv x s = s := if_pos h
    rw [hm]
    clear hm
    go_enter Try.func52, Try.ntmps52
    go_wp2
    go_region
    go_wp2
    go_returns
    refine ⟨rfl, ?_⟩
    go_grown
  · have hm : mxv x s = x := if_neg h
    rw [hm]
    clear hm
    go_enter Try.func52, Try.ntmps52
    go_wp2
    go_region
    go_wp2
    go_returns
    refine ⟨rfl, ?_⟩
    go_grown

set_option maxHeartbeats 1000000 in
theorem with1 (x y z s : Int) (w : World) :
    Calls Try.prog 52 #[.agg #[.int .i64 x, .int .i64 y, .int .i64 z], .agg #[.int .i64 s, .int .i64 1]] w fun e w' => e = .returned (.agg #[.int .i64 x, .int .i64 (mxv y s), .int .i64 z]) ∧ Below w.heap.size w w' := by
  by_cases h : y < s
  · have hm : mxv y s = s := if_pos h
    rw [hm]
    clear hm
    go_enter Try.func52, Try.ntmps52
    go_wp2
    go_region
    go_wp2
    go_returns
    refine ⟨rfl, ?_⟩
    go_grown
  · have hm : mxv y s = y := if_neg h
    rw [hm]
    clear hm
    go_enter Try.func52, Try.ntmps52
    go_wp2
    go_region
    go_wp2
    go_returns
    refine ⟨rfl, ?_⟩
    go_grown

set_option maxHeartbeats 1000000 in
theorem with2 (x y z s : Int) (w : World) :
    Calls Try.prog 52 #[.agg #[.int .i64 x, .int .i64 y, .int .i64 z], .agg #[.int .i64 s, .int .i64 2]] w fun e w' => e = .returned (.agg #[.int .i64 x, .int .i64 y, .int .i64 (mxv z s)]) ∧ Below w.heap.size w w' := by
  by_cases h : z < s
  · have hm : mxv z s = s := if_pos h
    rw [hm]
    clear hm
    go_enter Try.func52, Try.ntmps52
    go_wp2
    go_region
    go_wp2
    go_returns
    refine ⟨rfl, ?_⟩
    go_grown
  · have hm : mxv z s = z := if_neg h
    rw [hm]
    clear hm
    go_enter Try.func52, Try.ntmps52
    go_wp2
    go_region
    go_wp2
    go_returns
    refine ⟨rfl, ?_⟩
    go_grown

theorem withA (f : Nat → Int) (A : Nat) (s : Int) (w : World) (hA : A ≤ 2) :
    Calls Try.prog 52 #[.agg #[.int .i64 (f 0), .int .i64 (f 1), .int .i64 (f 2)], .agg #[.int .i64 s, .int .i64 (A : Int)]] w fun e w' =>
      e = .returned (.agg #[.int .i64 (if 0 = A then mxv (f A) s else f 0), .int .i64 (if 1 = A then mxv (f A) s else f 1), .int .i64 (if 2 = A then mxv (f A) s else f 2)]) ∧ Below w.heap.size w w' := by
  obtain rfl | rfl | rfl : A = 0 ∨ A = 1 ∨ A = 2 := by omega
  · exact with0 (f 0) (f 1) (f 2) s w
  · exact with1 (f 0) (f 1) (f 2) s w
  · exact with2 (f 0) (f 1) (f 2) s w

theorem withA' (f : Nat → Int) (A : Nat) (s x : Int) (w : World) (hx : x = (A : Int)) (hA : A ≤ 2) :
    Calls Try.prog 52 #[.agg #[.int .i64 (f 0), .int .i64 (f 1), .int .i64 (f 2)], .agg #[.int .i64 s, .int .i64 x]] w fun e w' =>
      e = .returned (.agg #[.int .i64 (if 0 = A then mxv (f A) s else f 0), .int .i64 (if 1 = A then mxv (f A) s else f 1), .int .i64 (if 2 = A then mxv (f A) s else f 2)]) ∧ Below w.heap.size w w' := hx ▸ withA f A s w hA

/-- The call's own vector, at block n. -/
def OwnV (w : World) (n : Nat) (f : Nat → Int) : Prop := w.rowIs n 84 3 (fun i => .int .i64 (f i))
theorem OwnV.below {w w' : World} {n : Nat} {f : Nat → Int} (h : OwnV w n f) (hb : Below w.heap.size w w') : OwnV w' n f := World.rowIs.of_block h (hb.block n (World.rowIs.lt h))
theorem vmx_succ (os : List OpV) (k x A : Nat) (s : Int) (hA : (os.getD k zop).j = (A : Int)) (hs : (os.getD k zop).i = s) : vmx os (k + 1) x = if x = A then mxv (vmx os k A) s else vmx os k x := by
  rw [vmx, hA, hs]
  by_cases e : x = A
  · subst e
    rw [if_pos rfl, mxv]
    by_cases h : vmx os k x < s
    · rw [if_pos ⟨rfl, h⟩, if_pos h]
    · rw [if_neg (fun q => h q.2), if_neg h]
  · rw [if_neg e, if_neg (fun q => e (by omega))]

set_option maxRecDepth 100000 in
set_option maxHeartbeats 2000000 in
theorem impl_LogVector (a : Option Addr) (c : Nat) (os : List OpV) (w : World) (hr : RdO w a os) (hl : os.length ≤ 1048576) (ht : ∀ k, k < os.length → (os.getD k zop).tx.size ≤ maxLen) :
    Calls Try.prog 28 #[.slice a os.length c] w (Gives w (lvec os)) := by
  have HV := Lib.hid (impl_ValidLog ivop a c os w hr hl ht)
  obtain ⟨p, hp⟩ : ∃ p, vlog os = p := ⟨_, rfl⟩
  have hx : lvec os = if p then [vmx os os.length 0, vmx os os.length 1, vmx os os.length 2] else [] := by rw [← hp]; rfl
  rw [hx]
  rw [hp] at HV
  have HPV := Lib.hid hp
  clear ht hp hx
  cases p
  · go_enter Try.func28, Try.ntmps28
    go_wp2_with fail
    refine HV.out.mono ?_
    rintro e w1 ⟨rfl, hb1⟩
    go_wp2
    go_ret
    exact ⟨none, 0, rfl, .inl ⟨rfl, rfl⟩, hb1⟩
  · have HOK := Lib.hid (fun k (hk : k < os.length) => vj_of (allTo_of HPV.out) hk)
    have FIN : ∀ W1 W2 e, Below w.heap.size w W1 → Gives W1 [vmx os os.length 0, vmx os os.length 1, vmx os os.length 2] e W2 → Gives w [vmx os os.length 0, vmx os os.length 1, vmx os os.length 2] e W2 := by
      rintro W1 W2 e hb ⟨a3, c3, rfl, hr3, hb3⟩
      refine ⟨a3, c3, rfl, ?_, hb.trans (hb3.mono hb.size)⟩
      rcases hr3 with hr3 | ⟨b3, rfl, hlo, ho⟩
      · exact .inl hr3
      · exact .inr ⟨b3, rfl, Nat.le_trans hb.size hlo, ho⟩
    have HFIN := Lib.hid FIN
    clear FIN
    rcases hr with rfl | ⟨b, off, rfl, hc⟩
    · go_enter Try.func28, Try.ntmps28
      go_wp2_with fail
      refine HV.out.mono ?_
      rintro e w1 ⟨rfl, hb1⟩
      have hz1 := hb1.size
      go_wp2
      refine wp_loop_rounds 1 ?_
      rw [rounds_succ]
      go_wp2_with fail
      refine (entries 0 0 0 _).mono ?_
      rintro e w3 hg
      obtain ⟨a3, c3, rfl, hr3, hb3⟩ := HFIN.out _ _ _ (hb1.alloc hz1 _) hg
      go_wp2
      go_ret
      exact ⟨a3, c3, rfl, hr3, hb3⟩
    · have HC := Lib.hid hc
      clear hc
      go_enter Try.func28, Try.ntmps28
      go_wp2_with fail
      refine HV.out.mono ?_
      rintro e w1 ⟨rfl, hb1⟩
      have hz1 := hb1.size
      go_wp2
      go_loopw [11] (fun i wr => ∃ k : Nat, k ≤ os.length ∧ i = .int .i64 k ∧ OwnV wr w1.heap.size (fun x => vmx os k x) ∧ Below w.heap.size w wr) (fun i _ => os.length - (intOf i).toNat)
      case atStart =>
        refine ⟨0, Nat.zero_le _, rfl, ⟨_, heap_alloc_new _ _, rfl, fun i hi => ?_⟩, hb1.alloc hz1 _⟩
        obtain rfl | rfl | rfl : i = 0 ∨ i = 1 ∨ i = 2 := by omega
        all_goals rfl
      case round =>
        obtain ⟨k, hk, rfl, hown, hnx⟩ := hrel
        have c0 : wr.cell? ⟨w1.heap.size, 0, none⟩ = some (.int .i64 (vmx os k 0)) := World.rowIs.cell hown (by omega)
        have c1 : wr.cell? ⟨w1.heap.size, 1, none⟩ = some (.int .i64 (vmx os k 1)) := World.rowIs.cell hown (by omega)
        have c2 : wr.cell? ⟨w1.heap.size, 2, none⟩ = some (.int .i64 (vmx os k 2)) := World.rowIs.cell hown (by omega)
        have hnl : w1.heap.size < wr.heap.size := World.rowIs.lt hown
        by_cases hlt : k < os.length
        · obtain ⟨o, ho⟩ : ∃ o, o = os.getD k zop := ⟨_, rfl⟩
          obtain ⟨A, hA, hA2⟩ := HOK.out k hlt
          have hA' : o.j = (A : Int) := by rw [ho]; exact hA
          have HR := Lib.hid (by rw [ho]; exact rangeAt_below (HC.out k hlt) hnx (rangeAt_lt (HC.out k hlt)) : wr.rangeAt b (off + k * 12) (opL o))
          have HW := Lib.hid (fun W => withA' (vmx os k) A o.i o.j W hA' hA2)
          have HSU := Lib.hid (fun x => vmx_succ os k x A o.i hA (by rw [ho]))
          have HA := Lib.hid hA'
          have HOWN := Lib.hid hown
          have hB0 : Below wr.heap.size wr (wr.alloc (.cells #[.int .i64 o.i, .int .i64 o.j, .int .i64 o.k, .int .i64 o.ts, .int .i64 o.ta, .int .i64 o.fs, .int .i64 o.fa, .int .i64 o.ns, .int .i64 o.na, .int .i64 o.v, .bool o.en, .string o.tx] 28)) := (Below.refl _ _).alloc (Nat.le_refl _) _
          clear hA hA' ho hown
          go_wp2_with (refine loadI rfl _ rfl rfl HR.out ?_)
          refine (HW.out _).mono ?_
          rintro e w2 ⟨rfl, hb2⟩
          have hB2 := hB0.trans (hb2.mono hB0.size)
          have hown2 := HOWN.out.below hB2
          have hsz2 := hB2.size
          have d0 : w2.cell? ⟨w1.heap.size, 0, none⟩ = some (.int .i64 (vmx os k 0)) := World.rowIs.cell hown2 (by omega)
          have d1 : w2.cell? ⟨w1.heap.size, 1, none⟩ = some (.int .i64 (vmx os k 1)) := World.rowIs.cell hown2 (by omega)
          have d2 : w2.cell? ⟨w1.heap.size, 2, none⟩ = some (.int .i64 (vmx os k 2)) := World.rowIs.cell hown2 (by omega)
          have f0 := World.rowIs.frozen hown2 0
          have f1 := World.rowIs.frozen hown2 1
          have f2 := World.rowIs.frozen hown2 2
          have HO2 := Lib.hid hown2
          clear hown2 c0 c1 c2
          go_wp2
          go_roundw
          case rel =>
            refine ⟨k + 1, by omega, by go_num, ?_, (((hnx.trans (hB2.mono hnx.size)).setCell hz1 _).setCell hz1 _).setCell hz1 _⟩
            refine World.rowIs.congr (World.rowIs.set (World.rowIs.set (World.rowIs.set HO2.out 0 _) 1 _) 2 _) fun i hi => ?_
            have hs := HSU.out i
            obtain rfl | rfl | rfl : i = 0 ∨ i = 1 ∨ i = 2 := by omega
            all_goals
              simp only [hs]
              rfl
          case measure => simp [intOf]; omega
        · obtain rfl : k = os.length := by omega
          go_wp2_with fail
          refine (entries _ _ _ _).mono ?_
          rintro e w3 hg
          obtain ⟨a3, c3, rfl, hr3, hb3⟩ := HFIN.out _ _ _ hnx hg
          go_wp2
          go_ret
          exact ⟨a3, c3, rfl, hr3, hb3⟩

end Go.Proofs.Ytdiifcgalehhbaa.LgX
