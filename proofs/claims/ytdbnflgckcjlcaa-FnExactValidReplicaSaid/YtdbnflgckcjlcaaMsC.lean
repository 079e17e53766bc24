/-
  Replicas of the exact laws and of the program: sz, to and eq. For logs and messages that read as lists of at most 2^20; no further condition.
-/
import Derived.Test.YtdbnflgckcjlcaaMsB
import Derived.Test.YtdbnflgckcjlcaaNnA
import Derived.Test.YtdbnflgckcjlcaaK2
import Derived.Handy
import Derived.Outline
namespace Go.Proofs.Ytdbnflgckcjlcaa.MsC
open Go.RowKit Go.Proofs.Ytdbnflgckcjlcaa.Base Go.Proofs.Ytdbnflgckcjlcaa.St Go.Proofs.Ytdbnflgckcjlcaa.StB Go.Proofs.Ytdbnflgckcjlcaa.OpA Go.Proofs.Ytdbnflgckcjlcaa.OpB Go.Proofs.Ytdbnflgckcjlcaa.OpT Go.Proofs.Ytdbnflgckcjlcaa.LgA Go.Proofs.Ytdbnflgckcjlcaa.LgB Go.Proofs.Ytdbnflgckcjlcaa.LgC Go.Proofs.Ytdbnflgckcjlcaa.LgE Go.Proofs.Ytdbnflgckcjlcaa.MsA Go.Proofs.Ytdbnflgckcjlcaa.MsB
open Go.Proofs.Ytdbnflgckcjlcaa.GsA (Elt RdG OwnG RdG.below)
open Go.Proofs.Ytdbnflgckcjlcaa.GsB (Ty)
open Go.Proofs.Ytdbnflgckcjlcaa.NnA (box_newG box_at box_there box_put box_setF setCell_other)
set_option linter.unusedVariables false
attribute [local go_sem ↓] Go.wp_at_zero Go.wp_at_succ

/-- A replica as it lies in memory. -/
structure RpV where
  au : Int
  a : Option Addr
  n : Nat
  c : Nat
  a2 : Option Addr
  n2 : Nat
  c2 : Nat
def LRp (x : RpV) : List Value := [.int .i64 x.au, .slice x.a x.n x.c, .slice x.a2 x.n2 x.c2]
def zRp : RpV := ⟨0, none, 0, 0, none, 0, 0⟩
def ERp : Elt RpV where
  n := 3
  L := LRp
  z := zRp
  hn := by omega
  len := fun _ => rfl
  one := by
    intro x u hu
    simp only [LRp, List.mem_cons, List.not_mem_nil, or_false] at hu
    rcases hu with rfl | rfl | rfl <;> rfl
theorem size_lRp : (Try.prog.info? 45).map (·.size) = some 3 := by kernel_rfl
theorem size_iRp : (Try.prog.info? 50).map (·.size) = some 3 := by kernel_rfl
theorem sz_iops : (Try.prog.info? 29).map (·.size) = some 1 := by kernel_rfl
theorem sz_imsgs : (Try.prog.info? 48).map (·.size) = some 1 := by kernel_rfl
abbrev CRp (w : World) (b : Nat) (x : RpV) : Prop := w.cell? ⟨b, 0, none⟩ = some (.int .i64 x.au) ∧ w.cell? ⟨b, 1, none⟩ = some (.slice x.a x.n x.c) ∧ w.cell? ⟨b, 2, none⟩ = some (.slice x.a2 x.n2 x.c2)
theorem cRp {w : World} {b : Nat} {x : RpV} (h : w.rangeAt b 0 (ERp.L x)) : CRp w b x := ⟨by have := h 0 _ rfl; rwa [Nat.zero_add] at this, by have := h 1 _ rfl; rwa [Nat.zero_add] at this, by have := h 2 _ rfl; rwa [Nat.zero_add] at this⟩
theorem load_lRp {ops : Array Oper} {rest : List Oper} {op : Oper} {a : Act} {w : World} {Q : Exit → Act → World → Prop} (hgd : op.guard = none) (x : Operand) (ho : op.op = .load 45 x) {b o : Nat} {y : RpV}
    (hx : a.eval x = .pointer (some ⟨b, o, none⟩)) (h : w.rangeAt b o (ERp.L y)) (k : wpList Try.prog ops Q rest (a.put op.dst (.agg #[.int .i64 y.au, .slice y.a y.n y.c, .slice y.a2 y.n2 y.c2])) w) : wpList Try.prog ops Q (op :: rest) a w :=
  wpList_load_mid hgd 45 x ho b o hx (LRp y) _ h Try.underlying45 rfl size_lRp k
theorem load_iRp {ops : Array Oper} {rest : List Oper} {op : Oper} {a : Act} {w : World} {Q : Exit → Act → World → Prop} (hgd : op.guard = none) (x : Operand) (ho : op.op = .load 50 x) {b o : Nat} {y : RpV}
    (hx : a.eval x = .pointer (some ⟨b, o, none⟩)) (h : w.rangeAt b o (ERp.L y)) (k : wpList Try.prog ops Q rest (a.put op.dst (.agg #[.int .i64 y.au, .slice y.a y.n y.c, .slice y.a2 y.n2 y.c2])) w) : wpList Try.prog ops Q (op :: rest) a w :=
  wpList_load_mid hgd 50 x ho b o hx (LRp y) _ h Try.underlying50 rfl size_iRp k
theorem store_iRp {ops : Array Oper} {rest : List Oper} {op : Oper} {a : Act} {w : World} {Q : Exit → Act → World → Prop} (hgd : op.guard = none) (x y : Operand) (ho : op.op = .store 50 x y) {b o : Nat} {v : RpV}
    (hx : a.eval x = .pointer (some ⟨b, o, none⟩)) (hy : a.eval y = .agg #[.int .i64 v.au, .slice v.a v.n v.c, .slice v.a2 v.n2 v.c2]) (h : w.there b o 3) (k : wpList Try.prog ops Q rest (a.put op.dst undef) (w.setCells b o (ERp.L v))) : wpList Try.prog ops Q (op :: rest) a w :=
  wpList_store_mid hgd 50 x y ho b o _ hx hy h size_iRp (by simp [Value.oneCell']) k
abbrev BoxR (w : World) (k : Nat) (x : RpV) : Prop := OwnG ERp 50 w k 1 1 (fun _ => x)
theorem BoxR.only {w w' : World} {k b : Nat} {x : RpV} (h : BoxR w k x) (ho : Only b w w') (hne : k ≠ b) : BoxR w' k x := h.of_block (ho.2.1 k hne)
theorem store1R {ops : Array Oper} {rest : List Oper} {op : Oper} {a : Act} {w : World} {Q : Exit → Act → World → Prop} (hgd : op.guard = none) (T : TypeId) (x y : Operand) (ho : op.op = .store T x y) {b j : Nat} {u : Value} {z : RpV}
    (hx : a.eval x = .pointer (some ⟨b, j, none⟩)) (hy : a.eval y = u) (hu : u.oneCell' = true) (hsz : (Try.prog.info? T).map (·.size) = some 1) (h : BoxR w b z) (hj : j < 3) (z' : RpV) (hz : ERp.L z' = (ERp.L z).set j u)
    (K : ∀ w', BoxR w' b z' → Only b w w' → wpList Try.prog ops Q rest (a.put op.dst undef) w') : wpList Try.prog ops Q (op :: rest) a w :=
  Go.Proofs.Ytdbnflgckcjlcaa.MsA.store1 hgd T x y ho hx hy hu hsz (by have := h.there (k := 0) (by omega) j 1 (by show j + 1 ≤ 3; omega); simpa using this) (fun w' hw' => by
    subst hw'
    exact K _ (box_setF h hj u z' hz) (only_set b j [u] w))
theorem storeRp {ops : Array Oper} {rest : List Oper} {op : Oper} {a : Act} {w : World} {Q : Exit → Act → World → Prop} (hgd : op.guard = none) (x y : Operand) (ho : op.op = .store 50 x y) {b : Nat} {v z : RpV}
    (hx : a.eval x = .pointer (some ⟨b, 0, none⟩)) (hy : a.eval y = .agg #[.int .i64 v.au, .slice v.a v.n v.c, .slice v.a2 v.n2 v.c2]) (h : BoxR w b z) (K : ∀ w', BoxR w' b v → Only b w w' → wpList Try.prog ops Q rest (a.put op.dst undef) w') : wpList Try.prog ops Q (op :: rest) a w :=
  store_iRp hgd x y ho hx hy (box_there h) (K _ (box_put h v) (only_set _ _ _ _))

/-- What szReplica gives: the room that is left, or -1. -/
def SzR (n m : Nat) (left : Int) (w : World) (e : Ending) (w' : World) : Prop :=
  (e = .returned (.int .i64 (-1)) ∨ ∃ r : Int, 0 ≤ r ∧ r ≤ left ∧ (n : Int) ≤ left ∧ (m : Int) ≤ left ∧ e = .returned (.int .i64 r)) ∧ Below w.heap.size w w'

set_option maxRecDepth 100000 in
theorem szReplica (au : Int) (a a2 : Option Addr) (c c2 : Nat) (os : List OpV) (ms : List MsgV) (left : Int) (w : World) (hr : RdO w a os) (hm : os.length ≤ maxLen) (ht : ∀ k, k < os.length → (os.getD k zop).tx.size ≤ maxLen)
    (hr2 : RdG EMsg w a2 ms) (hm2 : ms.length ≤ maxLen) (ht2 : ∀ k, k < ms.length → (ms.getD k zMsg).o.tx.size ≤ maxLen) (hl : 0 ≤ left ∧ left ≤ 1048576) :
    Calls Try.prog 23 #[.agg #[.int .i64 au, .slice a os.length c, .slice a2 ms.length c2], .int .i64 left] w (SzR os.length ms.length left w) := by
  obtain ⟨w0, hw0⟩ : ∃ w0, w0 = w.alloc (.cells #[.int .i64 au, .slice a os.length c, .slice a2 ms.length c2] 45) := ⟨_, rfl⟩
  have hB : Below w.heap.size w w0 := by rw [hw0]; exact (Below.refl _ _).alloc (Nat.le_refl _) _
  have hz : w.heap.size < w0.heap.size := by rw [hw0]; simp
  have HC2 := Lib.hid (by rw [hw0]; simp [go_sem] : w0.cell? ⟨w.heap.size, 2, none⟩ = some (.slice a2 ms.length c2))
  have HS := Lib.hid (szOpS a c os left w0 (RdO.below hr hB) hm ht hl)
  have HS2 := Lib.hid (fun r W (hW : Below w.heap.size w W) (h0 : 0 ≤ r) (h1 : r ≤ 1048576) => szMessageS a2 c2 ms r W (hr2.below hW) hm2 ht2 ⟨h0, h1⟩)
  have HB := Lib.hid hB
  have HZ := Lib.hid hz
  have HW := Lib.hid hw0
  clear hB hz hw0 hr hr2 hm hm2 ht ht2
  go_enter Try.func23, Try.ntmps23
  go_wp2_with fail
  rw [← HW.out]
  refine HS.out.mono ?_
  rintro e w1 ⟨h, b1⟩
  have hB1 := HB.out.trans (b1.mono HB.out.size)
  rcases h with rfl | ⟨r, h0, h1, h2, rfl⟩
  · go_wp2
    go_ret
    exact ⟨.inl rfl, hB1⟩
  · have c2' := (b1.cell (p := ⟨w.heap.size, 2, none⟩) HZ.out).trans HC2.out
    go_wp2_with fail
    refine (HS2.out r _ hB1 h0 (by omega)).mono ?_
    rintro e w2 ⟨h', b2⟩
    have hB2 := hB1.trans (b2.mono hB1.size)
    rcases h' with rfl | ⟨r', h0', h1', h2', rfl⟩
    · go_wp2
      go_ret
      exact ⟨.inl rfl, hB2⟩
    · go_wp2
      go_ret
      exact ⟨.inr ⟨r', h0', by omega, h2, by omega, rfl⟩, hB2⟩

/-- The value returned is a replica with the same author over new rows. -/
def NewRp (w : World) (au : Int) (os : List OpV) (ms : List MsgV) (e : Ending) (w' : World) : Prop :=
  ∃ b b2, e = .returned (.agg #[.int .i64 au, .slice (some ⟨b, 0, none⟩) os.length os.length, .slice (some ⟨b2, 0, none⟩) ms.length ms.length]) ∧ w.heap.size ≤ b ∧ w.heap.size ≤ b2 ∧ b ≠ b2 ∧
    OwnO w' b os.length os.length (fun i => os.getD i zop) ∧ OwnG EMsg 88 w' b2 ms.length ms.length (fun i => ms.getD i zMsg) ∧ Below w.heap.size w w'

set_option maxRecDepth 100000 in
set_option maxHeartbeats 4000000 in
theorem toReplica (au : Int) (a a2 : Option Addr) (c c2 : Nat) (os : List OpV) (ms : List MsgV) (w : World) (hr : RdO w a os) (hl : os.length ≤ 1048576) (hr2 : RdG EMsg w a2 ms) (hl2 : ms.length ≤ 1048576) :
    Calls Try.prog 25 #[.agg #[.int .i64 au, .slice a os.length c, .slice a2 ms.length c2]] w (NewRp w au os ms) := by
  obtain ⟨w0, hw0⟩ : ∃ w0, w0 = (((w.alloc (.cells #[.int .i64 au, .slice a os.length c, .slice a2 ms.length c2] 45)).alloc (.cells #[.int .i64 0, .slice none 0 0, .slice none 0 0] 50)).alloc (.cells #[.int .i64 0, .slice none 0 0, .slice none 0 0] 50)) := ⟨_, rfl⟩
  have hz : w0.heap.size = w.heap.size + 3 := by rw [hw0]; simp
  have hB : Below w.heap.size w w0 := by rw [hw0]; exact (((Below.refl _ _).alloc (Nat.le_refl _) _).alloc (by simp) _).alloc (by simp; omega) _
  have d0 : w0.cell? ⟨w.heap.size, 0, none⟩ = some (.int .i64 au) := by rw [hw0]; simp [go_sem]
  have d1 : w0.cell? ⟨w.heap.size, 1, none⟩ = some (.slice a os.length c) := by rw [hw0]; simp [go_sem]
  have d2 : w0.cell? ⟨w.heap.size, 2, none⟩ = some (.slice a2 ms.length c2) := by rw [hw0]; simp [go_sem]
  have hb1 : BoxR w0 (w.heap.size + 1) zRp := by
    have h := box_newG (E := ERp) (w.alloc (.cells #[.int .i64 au, .slice a os.length c, .slice a2 ms.length c2] 45)) #[.int .i64 0, .slice none 0 0, .slice none 0 0] 50 zRp rfl
    rw [show (w.alloc (.cells #[.int .i64 au, .slice a os.length c, .slice a2 ms.length c2] 45)).heap.size = w.heap.size + 1 by simp] at h
    rw [hw0]
    exact h.below ((Below.refl _ _).alloc (Nat.le_refl _) _)
  have hb2 : BoxR w0 (w.heap.size + 1 + 1) zRp := by
    have h := box_newG (E := ERp) ((w.alloc (.cells #[.int .i64 au, .slice a os.length c, .slice a2 ms.length c2] 45)).alloc (.cells #[.int .i64 0, .slice none 0 0, .slice none 0 0] 50)) #[.int .i64 0, .slice none 0 0, .slice none 0 0] 50 zRp rfl
    rw [← hw0, show ((w.alloc (.cells #[.int .i64 au, .slice a os.length c, .slice a2 ms.length c2] 45)).alloc (.cells #[.int .i64 0, .slice none 0 0, .slice none 0 0] 50)).heap.size = w.heap.size + 2 by simp] at h
    exact h
  have HT := Lib.hid (fun W (hW : Below w.heap.size w W) => toOpS a c os W (RdO.below hr hW) hl)
  have HT2 := Lib.hid (fun W (hW : Below w.heap.size w W) => toMessageS a2 c2 ms W (hr2.below hW) hl2)
  have H1 := Lib.hid hb1
  have H2 := Lib.hid hb2
  have HB := Lib.hid hB
  have HD := Lib.hid (And.intro d0 (And.intro d1 d2))
  have HW := Lib.hid hw0
  have HZ := Lib.hid hz
  clear hb1 hb2 hB hw0 hz hr hr2 d0 d1 d2
  obtain ⟨c0, c1', c2'⟩ := HD.out
  go_enter Try.func25, Try.ntmps25
  go_wp2_with (first
    | (rw [← HW.out]
       refine store1R rfl 3 _ _ rfl rfl rfl rfl Go.Proofs.Ytdbnflgckcjlcaa.MsA.sz_int H2.out (by omega) ⟨au, none, 0, 0, none, 0, 0⟩ rfl ?_
       intro w1 hb1 o1
       have K2 := Lib.hid hb1
       have K1 := Lib.hid (BoxR.only H1.out o1 (by omega))
       have KB := Lib.hid (HB.out.trans (o1.2.2.mono (by omega)))
       have hz1 : w1.heap.size = w.heap.size + 3 := by rw [o1.1]; exact HZ.out
       have c0 := (World.cell?_of_block (w := w0) (o1.2.1 w.heap.size (by omega))).trans HD.out.1
       have c1' := (World.cell?_of_block (w := w0) (o1.2.1 w.heap.size (by omega))).trans HD.out.2.1
       have c2' := (World.cell?_of_block (w := w0) (o1.2.1 w.heap.size (by omega))).trans HD.out.2.2
       have HC := Lib.hid c2'
       have HZ1 := Lib.hid hz1
       clear hb1 o1 hz1))
  refine (HT.out _ KB.out).mono ?_
  rintro e w2 ⟨b, rfl, hlb, hown, b2⟩
  have hz2 : w.heap.size + 3 ≤ w2.heap.size := by have := b2.size; have := HZ1.out; omega
  have hbz := hown.lt
  have hlb' : w.heap.size + 3 ≤ b := by have := HZ1.out; omega
  have L2 := Lib.hid (K2.out.below b2)
  have L1 := Lib.hid (K1.out.below b2)
  have LB := Lib.hid (KB.out.trans (b2.mono KB.out.size))
  have LO := Lib.hid hown
  have c2'' := (b2.cell (p := ⟨w.heap.size, 2, none⟩) (by have := HZ1.out; show w.heap.size < _; omega)).trans HC.out
  clear hown b2 K1 K2 KB c0 c1' c2' HZ1 HC
  have HCC := Lib.hid c2''
  go_wp2_with (first
    | (refine store1R rfl 29 _ _ rfl rfl rfl rfl sz_iops L2.out (by omega) ⟨au, some ⟨b, 0, none⟩, os.length, os.length, none, 0, 0⟩ rfl ?_
       intro w3 hb3 o3
       have M2 := Lib.hid hb3
       have M1 := Lib.hid (BoxR.only L1.out o3 (by omega))
       have MB := Lib.hid (LB.out.trans (o3.2.2.mono (by omega)))
       have MO := Lib.hid (OwnO.of_block LO.out (o3.2.1 _ (by omega)))
       have c2'' := (World.cell?_of_block (w := w2) (o3.2.1 w.heap.size (by omega))).trans HCC.out
       have hz3 : w2.heap.size = w3.heap.size := o3.1.symm
       have HZ3 := Lib.hid hz3
       clear hb3 o3 hz3))
  refine (HT2.out _ MB.out).mono ?_
  rintro e w4 ⟨b', rfl, hlb2, hown2, b4⟩
  have hz4 : w.heap.size + 3 ≤ w4.heap.size := by have := b4.size; have := HZ3.out; omega
  have hlb2' : w2.heap.size ≤ b' := by have := HZ3.out; omega
  have N2 := Lib.hid (M2.out.below b4)
  have N1 := Lib.hid (M1.out.below b4)
  have NB := Lib.hid (MB.out.trans (b4.mono MB.out.size))
  have NO := Lib.hid (OwnO.below MO.out b4)
  have NM := Lib.hid hown2
  clear hown2 b4 M1 M2 MB MO c2''
  go_wp2_with (first
    | (refine store1R rfl 48 _ _ rfl rfl rfl rfl sz_imsgs N2.out (by omega) ⟨au, some ⟨b, 0, none⟩, os.length, os.length, some ⟨b', 0, none⟩, ms.length, ms.length⟩ rfl ?_
       intro w5 hb5 o5
       have P2 := Lib.hid (box_at hb5)
       have P1 := Lib.hid (BoxR.only N1.out o5 (by omega))
       have PB := Lib.hid (NB.out.trans (o5.2.2.mono (by omega)))
       have PO := Lib.hid (OwnO.of_block NO.out (o5.2.1 _ (by omega)))
       have PM := Lib.hid (NM.out.of_block (o5.2.1 _ (by omega)))
       clear hb5 o5)
    | (with_reducible refine load_iRp (y := ⟨au, some ⟨b, 0, none⟩, os.length, os.length, some ⟨b', 0, none⟩, ms.length, ms.length⟩) rfl _ rfl rfl P2.out ?_)
    | (with_reducible refine storeRp (v := ⟨au, some ⟨b, 0, none⟩, os.length, os.length, some ⟨b', 0, none⟩, ms.length, ms.length⟩) rfl _ _ rfl rfl rfl P1.out ?_
       intro w6 hb6 o6
       obtain ⟨f0, f1, f2⟩ := cRp (box_at hb6)
       have QB := Lib.hid (PB.out.trans (o6.2.2.mono (by omega)))
       have QO := Lib.hid (OwnO.of_block PO.out (o6.2.1 _ (by omega)))
       have QM := Lib.hid (PM.out.of_block (o6.2.1 _ (by omega)))
       clear hb6 o6))
  exact bodyPost_ret (v := .agg #[.int .i64 au, .slice (some ⟨b, 0, none⟩) os.length os.length, .slice (some ⟨b', 0, none⟩) ms.length ms.length]) (by simp [results, Try.results25, go_sem, f0, f1, f2]) rfl ⟨b, b', rfl, by omega, by omega, by omega, QO.out, QM.out, QB.out⟩

set_option maxRecDepth 100000 in
set_option maxHeartbeats 2000000 in
theorem eqReplica (au : Int) (a a2 a' a2' : Option Addr) (c c2 c' c2' : Nat) (os : List OpV) (ms : List MsgV) (w : World) (hr : RdO w a os) (hr' : RdO w a' os) (hl : os.length ≤ 1048576) (hm : RdG EMsg w a2 ms) (hm' : RdG EMsg w a2' ms) (hl2 : ms.length ≤ 1048576) :
    Calls Try.prog 27 #[.agg #[.int .i64 au, .slice a os.length c, .slice a2 ms.length c2], .agg #[.int .i64 au, .slice a' os.length c', .slice a2' ms.length c2']] w fun e w' => e = .returned (.bool true) ∧ Below w.heap.size w w' := by
  obtain ⟨w0, hw0⟩ : ∃ w0, w0 = ((w.alloc (.cells #[.int .i64 au, .slice a os.length c, .slice a2 ms.length c2] 50)).alloc (.cells #[.int .i64 au, .slice a' os.length c', .slice a2' ms.length c2'] 50)) := ⟨_, rfl⟩
  have hz : w0.heap.size = w.heap.size + 2 := by rw [hw0]; simp
  have hB : Below w.heap.size w w0 := by rw [hw0]; exact ((Below.refl _ _).alloc (Nat.le_refl _) _).alloc (by simp) _
  have p1 : w0.cell? ⟨w.heap.size, 2, none⟩ = some (.slice a2 ms.length c2) := by rw [hw0]; simp [go_sem]
  have p2 : w0.cell? ⟨w.heap.size + 1, 2, none⟩ = some (.slice a2' ms.length c2') := by rw [hw0]; simp [go_sem]
  have HE := Lib.hid (eqOpS a a' c c' os w0 (RdO.below hr hB) (RdO.below hr' hB) hl)
  have HE2 := Lib.hid (fun W (hW : Below w.heap.size w W) => eqMessageS a2 a2' c2 c2' ms W (hm.below hW) (hm'.below hW) hl2)
  have HB := Lib.hid hB
  have HZ := Lib.hid hz
  have P1 := Lib.hid p1
  have P2 := Lib.hid p2
  have HW := Lib.hid hw0
  clear hB hz p1 p2 hw0 hr hr' hm hm'
  go_enter Try.func27, Try.ntmps27
  go_wp2_with fail
  rw [← HW.out]
  refine HE.out.mono ?_
  rintro e w1 ⟨rfl, b1⟩
  have hB1 := HB.out.trans (b1.mono HB.out.size)
  have q1 := (b1.cell (p := ⟨w.heap.size, 2, none⟩) (by have := HZ.out; show w.heap.size < _; omega)).trans P1.out
  have q2 := (b1.cell (p := ⟨w.heap.size + 1, 2, none⟩) (by have := HZ.out; show w.heap.size + 1 < _; omega)).trans P2.out
  go_wp2_with fail
  refine (HE2.out _ hB1).mono ?_
  rintro e w2 ⟨rfl, b2⟩
  go_wp2
  go_ret
  exact ⟨rfl, hB1.trans (b2.mono hB1.size)⟩

end Go.Proofs.Ytdbnflgckcjlcaa.MsC
