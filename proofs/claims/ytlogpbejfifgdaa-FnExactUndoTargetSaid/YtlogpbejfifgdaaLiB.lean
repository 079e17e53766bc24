/-
  ActiveOps of the program: its contract. For slices that read as a list of at most 2^20 operations.
-/
import Derived.Test.YtlogpbejfifgdaaLiA
import Derived.Test.YtlogpbejfifgdaaK5
import Derived.Maps.OwnOps
import Derived.RegionTactic
import Derived.BigRegion
import Derived.Outline
namespace Go.Proofs.Ytlogpbejfifgdaa.LiB
open Go.RowKit Go.Proofs.Ytlogpbejfifgdaa.Base Go.Proofs.Ytlogpbejfifgdaa.St Go.Proofs.Ytlogpbejfifgdaa.StB Go.Proofs.Ytlogpbejfifgdaa.Vec Go.Proofs.Ytlogpbejfifgdaa.Row Go.Proofs.Ytlogpbejfifgdaa.OpA Go.Proofs.Ytlogpbejfifgdaa.OpB Go.Proofs.Ytlogpbejfifgdaa.LgA Go.Proofs.Ytlogpbejfifgdaa.LgB Go.Proofs.Ytlogpbejfifgdaa.LgC Go.Proofs.Ytlogpbejfifgdaa.LgF Go.Proofs.Ytlogpbejfifgdaa.LgH Go.Proofs.Ytlogpbejfifgdaa.LgI Go.Proofs.Ytlogpbejfifgdaa.LgN Go.Proofs.Ytlogpbejfifgdaa.LgP Go.Proofs.Ytlogpbejfifgdaa.LiA
set_option linter.unusedVariables false

/-- Block b is a row of c bools of the call's own; the first n are f 0, f 1, .. -/
def OwnB (w : World) (b c n : Nat) (f : Nat → Bool) : Prop :=
  ∃ g : Nat → Value, w.rowIs b 4 c g ∧ n ≤ c ∧ ∀ i, i < n → g i = .bool (f i)
theorem OwnB.lt {w : World} {b c n : Nat} {f : Nat → Bool} (h : OwnB w b c n f) : b < w.heap.size := by obtain ⟨g, h, _⟩ := h; exact h.lt
theorem OwnB.cell {w : World} {b c n : Nat} {f : Nat → Bool} (h : OwnB w b c n f) {i : Nat} (hi : i < n) : w.cell? ⟨b, i, none⟩ = some (.bool (f i)) := by
  obtain ⟨g, h, hn, hg⟩ := h
  rw [h.cell (by omega), hg i hi]
theorem OwnB.frozen {w : World} {b c n : Nat} {f : Nat → Bool} (h : OwnB w b c n f) (i : Nat) : w.frozen? ⟨b, i, none⟩ = false := by
  obtain ⟨g, h, _⟩ := h
  exact h.frozen i
theorem OwnB.of_block {w w' : World} {b c n : Nat} {f : Nat → Bool} (h : OwnB w b c n f) (e : w'.heap[b]? = w.heap[b]?) : OwnB w' b c n f := by
  obtain ⟨g, h, hn, hg⟩ := h
  exact ⟨g, h.of_block e, hn, hg⟩
theorem OwnB.below {w w' : World} {b c n : Nat} {f : Nat → Bool} (h : OwnB w b c n f) (hb : Below w.heap.size w w') : OwnB w' b c n f := h.of_block (hb.block b h.lt)
theorem OwnB.grown {w w' : World} {b c n : Nat} {r : Option Nat} {f : Nat → Bool} (h : OwnB w b c n f) (hb : w.grownBy w' r) (hne : some b ≠ r) : OwnB w' b c n f :=
  h.of_block (hb.block b h.lt hne)
theorem OwnB.congr {w : World} {b c n : Nat} {f f' : Nat → Bool} (h : OwnB w b c n f) (e : ∀ i, i < n → f i = f' i) : OwnB w b c n f' := by
  obtain ⟨g, h, hn, hg⟩ := h
  exact ⟨g, h, hn, fun i hi => by rw [hg i hi, e i hi]⟩
theorem OwnB.set {w : World} {b c n : Nat} {f : Nat → Bool} (h : OwnB w b c n f) (k : Nat) (v : Bool) : OwnB (w.setCell ⟨b, k, none⟩ (.bool v)) b c n (fun j => if j = k then v else f j) := by
  obtain ⟨g, h, hn, hg⟩ := h
  refine ⟨_, h.set k _, hn, fun i hi => ?_⟩
  by_cases e : i = k
  · simp [e]
  · simp [e, hg i hi]
/-- The slice (a, c) is nil, or of the call's own from block lo on; it holds n bools f 0, f 1, .. -/
def RowBo (lo : Nat) (w : World) (a : Option Addr) (c n : Nat) (f : Nat → Bool) : Prop :=
  (a = none ∧ n = 0) ∨ ∃ b, a = some ⟨b, 0, none⟩ ∧ lo ≤ b ∧ OwnB w b c n f
/-- The value returned is a slice of the call's own with just the bools bs. -/
def GivesB (w : World) (bs : List Bool) (e : Ending) (w' : World) : Prop :=
  ∃ a c, e = .returned (.slice a bs.length c) ∧ RowBo w.heap.size w' a c bs.length (fun i => bs.getD i false) ∧ Below w.heap.size w w'
theorem givesB_nil {w w1 : World} (hb : Below w.heap.size w w1) : GivesB w [] (.returned (.slice none 0 0)) w1 := ⟨none, 0, rfl, .inl ⟨rfl, rfl⟩, hb⟩
/-- The answer of ActiveOps. -/
def act (os : List OpV) : List Bool := if vlog os then actv os else []
theorem actv_len (os : List OpV) : (actv os).length = os.length := by simp [actv]
theorem actv_get (os : List OpV) {i : Nat} (hi : i < os.length) : (actv os).getD i false = liv os i (os.length - (i + 1)) := by
  simp [actv, List.getD_eq_getElem?_getD, List.getElem?_map, List.getElem?_range hi]
theorem info_bool : (Try.prog.info? 4).map (fun i => (i.zero, i.size, i.bytes)) = some (some (.bool false), 1, 1) := by kernel_rfl
theorem wf99 {x : Int} (h0 : 0 ≤ x) (h1 : x ≤ 99) : (Lit.int .i64 x).wf = true := by
  have e1 : IntKind.i64.min = -9223372036854775808 := by decide
  have e2 : IntKind.i64.max = 9223372036854775807 := by decide
  show (decide (IntKind.i64.min ≤ x) && decide (x ≤ IntKind.i64.max)) = true
  rw [e1, e2]
  simp only [Bool.and_eq_true, decide_eq_true_eq]
  omega
theorem vst_wf {s a : Int} (h : vst s a = true) : (Lit.int .i64 s).wf = true ∧ (Lit.int .i64 a).wf = true := by
  unfold vst inR at h
  simp only [Bool.and_eq_true, decide_eq_true_eq] at h
  obtain ⟨⟨h1, h2⟩, h3, h4⟩ := h
  exact ⟨wf99 (by omega) h2, wf99 h3 (by omega)⟩
theorem undo_wf {o : OpV} (h : vop o = true) (hk : o.k = 10) : (Lit.int .i64 o.ts).wf = true ∧ (Lit.int .i64 o.ta).wf = true := by
  have h2 : opKindOk o = true := by
    unfold vop at h
    simp only [Bool.and_eq_true] at h
    exact h.2
  unfold opKindOk at h2
  rw [if_neg (by omega), if_neg (by omega), if_neg (by omega), if_neg (by omega), if_neg (by omega), if_neg (by omega), if_neg (by omega), if_neg (by omega), if_neg (by omega), if_pos hk] at h2
  simp only [Bool.and_eq_true] at h2
  have h1 := h2.1
  unfold vref at h1
  split at h1
  · cases h1
  · simp only [Bool.and_eq_true] at h1
    exact vst_wf h1.1
theorem mpf_yes {os : List OpV} {k : Nat} {o : OpV} (ho : o = os.getD k zop) (h1 : o.k = 10) (h2 : o.ta = o.j) (s a : Int) : (if s = o.ts ∧ a = o.ta then !o.en else mpf os k s a) = mpf os (k + 1) s a := by
  rw [mpf, ← ho]
  by_cases e : s = o.ts ∧ a = o.ta
  · rw [if_pos e, if_pos ⟨h1, h2, e.1.symm, e.2.symm⟩]
  · rw [if_neg e, if_neg (fun q => e ⟨q.2.2.1.symm, q.2.2.2.symm⟩)]
theorem mpf_no {os : List OpV} {k : Nat} {o : OpV} (ho : o = os.getD k zop) (h : ¬(o.k = 10 ∧ o.ta = o.j)) (s a : Int) : mpf os k s a = mpf os (k + 1) s a := by
  rw [mpf, ← ho, if_neg (fun q => h ⟨q.1, q.2.1⟩)]

set_option maxRecDepth 100000 in
set_option maxHeartbeats 2000000 in
theorem impl_ActiveOps (a : Option Addr) (c : Nat) (os : List OpV) (w : World) (hr : RdO w a os) (hl : os.length ≤ 1048576) (ht : ∀ k, k < os.length → (os.getD k zop).tx.size ≤ maxLen) :
    Calls Try.prog 23 #[.slice a os.length c] w (GivesB w (act os)) := by
  have HV := Lib.hid (impl_ValidLog ivop a c os w hr hl ht)
  obtain ⟨p, hp⟩ : ∃ p, vlog os = p := ⟨_, rfl⟩
  have hx : act os = if p then actv os else [] := by rw [← hp]; rfl
  rw [hx]
  rw [hp] at HV
  have HPV := Lib.hid hp
  clear ht hp hx
  have hmm := fun W => @run_makeMap Try.prog 86 W
  cases p
  · go_enter Try.func23, Try.ntmps23
    go_wp2_with fail
    refine HV.out.mono ?_
    rintro e w1 ⟨rfl, hb1⟩
    go_wp2
    go_ret
    exact givesB_nil hb1
  · have HOK := Lib.hid (fun k (hk : k < os.length) => vop_of HPV.out hk)
    have hmk : ∀ n : Nat, n ≤ 1048576 → ∀ w : World, (Instr.makeSlice 39 (.int .i64 n) (.int .i64 n)).run Try.prog w = .ok (.slice (some ⟨w.heap.size, 0, none⟩) n n) (w.alloc (.cells (madeCells #[.bool false] n) 4)) :=
      fun n hn w => run_make_row' (P := Try.prog) 39 4 (.bool false) 1 Try.underlying39 info_bool rfl .i64 .i64 n (by omega) (by omega) w
    have FIN : ∀ W sb, OwnB W sb os.length os.length (fun i => if i < os.length then liv2 os i else false) → w.heap.size ≤ sb → Below w.heap.size w W → GivesB w (actv os) (.returned (.slice (some ⟨sb, 0, none⟩) os.length os.length)) W := by
      intro W sb h hlo hb
      refine ⟨some ⟨sb, 0, none⟩, os.length, by rw [actv_len], .inr ⟨sb, rfl, hlo, ?_⟩, hb⟩
      rw [actv_len]
      exact h.congr fun i hi => by rw [if_pos hi, actv_get os hi, liv2_eq HPV.out hi]
    have HFIN := Lib.hid FIN
    clear FIN
    rcases hr with rfl | ⟨b, off, rfl, hc⟩
    · have hmk0 : ∀ w : World, (Instr.makeSlice 39 (.int .i64 0) (.int .i64 0)).run Try.prog w = .ok (.slice (some ⟨w.heap.size, 0, none⟩) 0 0) (w.alloc (.cells (madeCells #[.bool false] 0) 4)) := hmk 0 (by omega)
      clear hmk
      go_enter Try.func23, Try.ntmps23
      go_wp2_with fail
      refine HV.out.mono ?_
      rintro e w1 ⟨rfl, hb1⟩
      have hz1 := hb1.size
      go_wp2
      refine wp_loop_rounds 1 ?_
      rw [rounds_succ]
      go_wp2
      refine wp_loop_rounds 1 ?_
      rw [rounds_succ]
      go_wp2
      go_ret
      have hmd := World.rowIs_made (w1.alloc (.map #[] 0)) (.bool false) 0 4
      rw [show (w1.alloc (.map #[] 0)).heap.size = w1.heap.size + 1 by simp] at hmd
      exact HFIN.out _ _ ⟨fun _ => .bool false, hmd, Nat.le_refl _, fun i hi => absurd hi (Nat.not_lt_zero _)⟩ (by omega) ((hb1.alloc hz1 _).alloc (by simp; omega) _)
    · have HC := Lib.hid hc
      have hmk0 := Lib.hid (hmk os.length hl)
      clear hc hmk
      go_enter Try.func23, Try.ntmps23
      go_wp2_with fail
      refine HV.out.mono ?_
      rintro e w1 ⟨rfl, hb1⟩
      have hz1 := hb1.size
      go_wp2
      clear hmm
      go_loopw [15] (fun i wr => ∃ k : Nat, k ≤ os.length ∧ i = .int .i64 k ∧ Mp wr w1.heap.size k (mpf os k) ∧ Below w.heap.size w wr) (fun i _ => os.length - (intOf i).toNat)
      case atStart => exact ⟨0, Nat.zero_le _, rfl, (Mp.made w1).congr fun _ _ => rfl, hb1.alloc hz1 _⟩
      case round =>
        obtain ⟨k, hk, rfl, hmp, hnx⟩ := hrel
        by_cases hlt : k < os.length
        · obtain ⟨o, ho⟩ : ∃ o, o = os.getD k zop := ⟨_, rfl⟩
          have HR := Lib.hid (by rw [ho]; exact rangeAt_below (HC.out k hlt) hnx (rangeAt_lt (HC.out k hlt)) : wr.rangeAt b (off + k * 12) (opL o))
          have HOV := Lib.hid (show vop o = true by rw [ho]; exact HOK.out k hlt)
          have HO := Lib.hid ho
          clear ho
          have HM := Lib.hid (hmp.alloc (.cells #[.int .i64 o.i, .int .i64 o.j, .int .i64 o.k, .int .i64 o.ts, .int .i64 o.ta, .int .i64 o.fs, .int .i64 o.fa, .int .i64 o.ns, .int .i64 o.na, .int .i64 o.v, .bool o.en, .string o.tx] 27))
          have hB0 : Below w.heap.size w (wr.alloc (.cells #[.int .i64 o.i, .int .i64 o.j, .int .i64 o.k, .int .i64 o.ts, .int .i64 o.ta, .int .i64 o.fs, .int .i64 o.fa, .int .i64 o.ns, .int .i64 o.na, .int .i64 o.v, .bool o.en, .string o.tx] 27)) := hnx.alloc hnx.size _
          have hml := hmp.lt
          have HMP := Lib.hid hmp
          clear hmp
          by_cases h1 : o.k = 10
          · have e1 : (o.k == 10) = true := by simp [h1]
            by_cases h2 : o.ta = o.j
            · have e2 : (o.ta == o.j) = true := by simp [h2]
              have H1 := Lib.hid h1
              have H2 := Lib.hid h2
              have HW := Lib.hid (undo_wf HOV.out h1)
              clear h1 h2
              go_wp2_with (first | (at_mapUpdate; refine mapStore rfl _ _ _ rfl rfl rfl rfl HM.out (by omega) HW.out.1 HW.out.2 ?_; intro w2 hm2 hg2) | refine loadI rfl _ rfl rfl HR.out ?_)
              go_roundw
              case rel => exact ⟨k + 1, by omega, by go_num, hm2.congr fun s a => mpf_yes HO.out H1.out H2.out s a, hB0.grown hg2 hB0.size (fun q hq => by injection hq with hq; rw [← hq]; exact hz1)⟩
              case measure => simp [intOf]; omega
            · have e2 : (o.ta == o.j) = false := by simp [h2]
              have H2 := Lib.hid h2
              clear h1 h2
              go_wp2_with (refine loadI rfl _ rfl rfl HR.out ?_)
              go_roundw
              case rel => exact ⟨k + 1, by omega, by go_num, (HM.out.mono (Nat.le_succ _)).congr fun s a => mpf_no HO.out (fun q => H2.out q.2) s a, hB0⟩
              case measure => simp [intOf]; omega
          · have e1 : (o.k == 10) = false := by simp [h1]
            have H1 := Lib.hid h1
            clear h1
            go_wp2_with (refine loadI rfl _ rfl rfl HR.out ?_)
            go_roundw
            case rel => exact ⟨k + 1, by omega, by go_num, (HM.out.mono (Nat.le_succ _)).congr fun s a => mpf_no HO.out (fun q => H1.out q.1) s a, hB0⟩
            case measure => simp [intOf]; omega
        · obtain rfl : k = os.length := by omega
          have hmk1 := hmk0.out
          have HMP := Lib.hid hmp
          have hml := hmp.lt
          clear hmp
          have hlo := hnx.size
          go_wp2
          clear hmk1
          generalize hsb : wr.heap.size = sb
          rw [hsb] at hml hlo
          go_loopw [43] (fun i wr2 => ∃ k : Nat, k ≤ os.length ∧ i = .int .i64 k ∧ OwnB wr2 sb os.length os.length (fun j => if j < k then liv2 os j else false) ∧ Mp wr2 w1.heap.size os.length (mpf os os.length) ∧ Below w.heap.size w wr2) (fun i _ => os.length - (intOf i).toNat)
          case atStart =>
            subst hsb
            exact ⟨0, Nat.zero_le _, rfl, ⟨fun _ => .bool false, World.rowIs_made _ (.bool false) os.length 4, Nat.le_refl _, fun i _ => by simp⟩, HMP.out.alloc _, hnx.alloc hnx.size _⟩
          case round =>
            obtain ⟨k, hk, rfl, hown, hmp, hnx2⟩ := hrel
            by_cases hlt : k < os.length
            · obtain ⟨o, ho⟩ : ∃ o, o = os.getD k zop := ⟨_, rfl⟩
              have HR := Lib.hid (by rw [ho]; exact rangeAt_below (HC.out k hlt) hnx2 (rangeAt_lt (HC.out k hlt)) : wr.rangeAt b (off + k * 12) (opL o))
              have hwf := vst_wf (show vst o.i o.j = true by rw [ho]; exact vst_of (allTo_of HPV.out) hlt)
              have hlv : liv2 os k = (decide (o.k = 10) || !mpf os os.length o.i o.j) := by rw [ho]; rfl
              clear ho
              have hM := hmp.alloc (.cells #[.int .i64 o.i, .int .i64 o.j, .int .i64 o.k, .int .i64 o.ts, .int .i64 o.ta, .int .i64 o.fs, .int .i64 o.fa, .int .i64 o.ns, .int .i64 o.na, .int .i64 o.v, .bool o.en, .string o.tx] 27)
              have hlook := hM.look hwf.1 hwf.2
              obtain ⟨q, hq⟩ : ∃ q, wr.cell? ⟨sb, k, none⟩ = some (.bool q) := ⟨_, hown.cell hlt⟩
              have hfo := hown.frozen k
              have hbl := hown.lt
              have hFIN : ∀ v : Bool, liv2 os k = v → OwnB ((wr.setCell ⟨sb, k, none⟩ (.bool v)).alloc (.cells #[.int .i64 o.i, .int .i64 o.j, .int .i64 o.k, .int .i64 o.ts, .int .i64 o.ta, .int .i64 o.fs, .int .i64 o.fa, .int .i64 o.ns, .int .i64 o.na, .int .i64 o.v, .bool o.en, .string o.tx] 27)) sb os.length os.length (fun j => if j < k + 1 then liv2 os j else false) := by
                intro v hv
                refine OwnB.grown ((hown.set k v).congr fun i hi => ?_) (World.grownBy_alloc _ _ none) (by simp)
                by_cases e : i = k
                · subst e; rw [if_pos rfl, if_pos (by omega), hv]
                · rw [if_neg e]
                  by_cases e2 : i < k
                  · rw [if_pos e2, if_pos (by omega)]
                  · rw [if_neg e2, if_neg (by omega)]
              have HF2 := Lib.hid hFIN
              have HG := Lib.hid (fun v : Value => Mp.alloc (Mp.grown hmp (grownBy_setCell _ sb k v) (by intro h; injection h with h; omega)) (.cells #[.int .i64 o.i, .int .i64 o.j, .int .i64 o.k, .int .i64 o.ts, .int .i64 o.ta, .int .i64 o.fs, .int .i64 o.fa, .int .i64 o.ns, .int .i64 o.na, .int .i64 o.v, .bool o.en, .string o.tx] 27))
              clear hM hown hmp hFIN hwf
              by_cases h1 : o.k = 10
              · have e1 : (o.k == 10) = true := by simp [h1]
                rw [decide_eq_true h1, Bool.true_or] at hlv
                clear hlook h1
                have HLV := Lib.hid hlv
                clear hlv
                go_wp2_with (refine loadI rfl _ rfl rfl HR.out ?_)
                go_roundw
                case rel => exact ⟨k + 1, by omega, by go_num, HF2.out _ HLV.out, HG.out _, (hnx2.setCell hlo _).alloc (by simpa using hnx2.size) _⟩
                case measure => simp [intOf]; omega
              · have e1 : (o.k == 10) = false := by simp [h1]
                rw [decide_eq_false h1, Bool.false_or] at hlv
                obtain ⟨m, hm⟩ : ∃ m, mpf os os.length o.i o.j = m := ⟨_, rfl⟩
                rw [hm] at hlv hlook
                have HLV := Lib.hid hlv
                clear hlv h1 hm
                go_wp2_with (refine loadI rfl _ rfl rfl HR.out ?_)
                go_roundw
                case rel => exact ⟨k + 1, by omega, by go_num, HF2.out _ HLV.out, HG.out _, (hnx2.setCell hlo _).alloc (by simpa using hnx2.size) _⟩
                case measure => simp [intOf]; omega
            · obtain rfl : k = os.length := by omega
              go_wp2
              go_ret
              exact HFIN.out _ _ hown hlo hnx2

end Go.Proofs.Ytlogpbejfifgdaa.LiB
