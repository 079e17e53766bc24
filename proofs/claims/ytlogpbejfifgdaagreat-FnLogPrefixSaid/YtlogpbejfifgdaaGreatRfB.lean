/-
  randomLog of the reader: it gives a new slice of at most 28 valid operations with short texts, and writes nothing that was there but the reader. For every reader whose position is at most 200000.
-/
import Derived.Test.YtlogpbejfifgdaaGreatRfA
import Derived.Test.YtlogpbejfifgdaaGreatReB
import Derived.Test.YtlogpbejfifgdaaGreatK5
import Derived.Test.YtlogpbejfifgdaaGreatK3
import Derived.Outline
namespace Go.Proofs.YtlogpbejfifgdaaGreat.RfB
open Go.RowKit Go.Proofs.YtlogpbejfifgdaaGreat.Base Go.Proofs.YtlogpbejfifgdaaGreat.St Go.Proofs.YtlogpbejfifgdaaGreat.Vec Go.Proofs.YtlogpbejfifgdaaGreat.Row Go.Proofs.YtlogpbejfifgdaaGreat.RowB Go.Proofs.YtlogpbejfifgdaaGreat.OpA Go.Proofs.YtlogpbejfifgdaaGreat.OpB Go.Proofs.YtlogpbejfifgdaaGreat.LgA Go.Proofs.YtlogpbejfifgdaaGreat.LgB Go.Proofs.YtlogpbejfifgdaaGreat.LgC Go.Proofs.YtlogpbejfifgdaaGreat.LgF Go.Proofs.YtlogpbejfifgdaaGreat.LgI Go.Proofs.YtlogpbejfifgdaaGreat.LgN Go.Proofs.YtlogpbejfifgdaaGreat.LgP Go.Proofs.YtlogpbejfifgdaaGreat.LgR Go.Proofs.YtlogpbejfifgdaaGreat.LgW Go.Proofs.YtlogpbejfifgdaaGreat.LgZ Go.Proofs.YtlogpbejfifgdaaGreat.LhA Go.Proofs.YtlogpbejfifgdaaGreat.VecE Go.Proofs.YtlogpbejfifgdaaGreat.RdA Go.Proofs.YtlogpbejfifgdaaGreat.RdB Go.Proofs.YtlogpbejfifgdaaGreat.RgC Go.Proofs.YtlogpbejfifgdaaGreat.RgD Go.Proofs.YtlogpbejfifgdaaGreat.ReA Go.Proofs.YtlogpbejfifgdaaGreat.ReB Go.Proofs.YtlogpbejfifgdaaGreat.RfA
set_option linter.unusedVariables false

/-- one gives one of the numbers. -/
theorem oneI (n R : Nat) (a : Option Addr) (cap p : Nat) (zs : List Int) (w : World) (h : RS n w R a cap p zs) (hp : p ≤ 1000000) (g L : Nat) (xs : Nat → Int)
    (hg : ∀ i, i < L → w.cell? ⟨g, i, none⟩ = some (.int .i64 (xs i))) (hgR : g ≠ R) (hgw : g < w.heap.size) (hL : 1 ≤ L) (hL2 : L ≤ 1000) :
    Calls Tryz.prog 44 #[.pointer (some ⟨R, 0, none⟩), .slice (some ⟨g, 0, none⟩) L L] w fun e w' => (∃ i, i < L ∧ e = .returned (.int .i64 (xs i))) ∧ RS n w' R a cap (p + 1) zs ∧ Wr R w w' := by
  have HP := Lib.hid (pickS n R a cap p L zs w h hp hL (by omega))
  have HG := Lib.hid hg
  clear hg h
  go_enter Tryz.func44, Tryz.ntmps44
  go_wp2_with fail
  refine HP.out.mono ?_
  rintro e w1 ⟨⟨v, hv, rfl⟩, hs, hw⟩
  have hc : w1.cell? ⟨g, v, none⟩ = some (.int .i64 (xs v)) := (hw.cell hgw hgR).trans (HG.out v hv)
  have hv0 : (0 : Int) ≤ (v : Int) := by omega
  have hv1 : (v : Int) < (L : Int) := by omega
  go_wp2
  go_ret
  exact ⟨⟨v, hv, rfl⟩, hs, hw⟩

theorem rlPick {n R : Nat} {a : Option Addr} {cap : Nat} {zs : List Int} {w0 : World} {S m P : Nat} {la : Option Addr} {lc : Nat} {los : List OpV} {vs : Nat → Value} (z : Int) (w : World) (h : RL n R a cap zs w0 S m P la lc los vs w) (hp : P ≤ 900000) (hz : 1 ≤ z) (hz2 : z ≤ 1000000) :
    Calls Tryz.prog 43 #[.pointer (some ⟨R, 0, none⟩), .int .i64 z] w fun e w' => (∃ x : Nat, (x : Int) < z ∧ e = .returned (.int .i64 x)) ∧ RL n R a cap zs w0 S m (P + 1) la lc los vs w' := by
  obtain ⟨p, hp1, hs⟩ := h.rs
  have e : z = (z.toNat : Int) := by omega
  have := pickS n R a cap p z.toNat zs w hs (by omega) (by omega) (by omega)
  rw [← e] at this
  exact this.mono fun e w' ⟨⟨v, hv, he⟩, hs', hw⟩ => ⟨⟨v, by omega, he⟩, h.step hw ⟨p + 1, by omega, hs'⟩⟩

/-- What a log that is drawn is. -/
def Logs (n R : Nat) (a : Option Addr) (cap P : Nat) (zs : List Int) (w : World) (e : Ending) (w' : World) : Prop :=
  (∃ v os, e = .returned v ∧ OwnsO w' w.heap.size v os ∧ Fine 28 os) ∧ (∃ p, p ≤ P ∧ RS n w' R a cap p zs) ∧ Wr R w w'

/-- An edit is drawn over one of the views. -/
theorem rlEdit {n R : Nat} {a : Option Addr} {cap : Nat} {zs : List Int} {w0 : World} {S m P : Nat} {la : Option Addr} {lc : Nat} {los : List OpV} {vs : Nat → Value} (w : World) (h : RL n R a cap zs w0 S m P la lc los vs w) (hp : P ≤ 700000) (hm : m ≤ 28) {A : Option Addr} {c : Nat} {os : List OpV} (hr : RdO w A os) (hf : Fine m os) :
    Calls Tryz.prog 55 #[.pointer (some ⟨R, 0, none⟩), .slice A os.length c] w fun e w' => (∃ o : OpV, e = .returned (.agg #[.int .i64 o.i, .int .i64 o.j, .int .i64 o.k, .int .i64 o.ts, .int .i64 o.ta, .int .i64 o.fs, .int .i64 o.fa, .int .i64 o.ns, .int .i64 o.na, .int .i64 o.v, .bool o.en, .string o.tx]) ∧ o.tx.size ≤ 8) ∧ RL n R a cap zs w0 S m (P + 20) la lc los vs w' := by
  obtain ⟨p, hp1, hs⟩ := h.rs
  exact (nextEdit n R a cap p zs w hs (by omega) h.size A c os hr (by have := hf.1; omega)).mono fun e w' ⟨he, ⟨q, hq, hs'⟩, hw⟩ => ⟨he, h.step hw ⟨q, by omega, hs'⟩⟩

set_option maxRecDepth 200000 in
set_option maxHeartbeats 20000000 in
theorem randomLog (n R : Nat) (a : Option Addr) (cap p : Nat) (zs : List Int) (w : World) (h : RS n w R a cap p zs) (hp : p ≤ 200000) (hn : n ≤ w.heap.size) :
    Calls Tryz.prog 42 #[.pointer (some ⟨R, 0, none⟩)] w (Logs n R a cap (p + 1000) zs w) := by
  have hR : R < n := h.2.1
  obtain ⟨S, hS⟩ : ∃ S, S = w.heap.size + 1 + 1 + 1 + 1 := ⟨_, rfl⟩
  obtain ⟨W, hW⟩ : ∃ W, W = ((((w.alloc (.cells #[] 39)).alloc (.cells #[] 39)).alloc (.cells #[] 39)).alloc (.cells #[] 39)) := ⟨_, rfl⟩
  have bW : Below w.heap.size w W := by rw [hW]; exact ((((Below.refl _ _).alloc (Nat.le_refl _) _).alloc (by simp) _).alloc (by simp; omega) _).alloc (by simp; omega) _
  have zW : W.heap.size = S := by rw [hW, hS]; simp
  have rl0 : RL n R a cap zs w S 0 p (some ⟨w.heap.size, 0, none⟩) 0 [] (fun j => .slice (some ⟨w.heap.size + 1 + j, 0, none⟩) 0 0) (W.alloc (.cells #[.slice (some ⟨w.heap.size + 1, 0, none⟩) 0 0, .slice (some ⟨w.heap.size + 1 + 1, 0, none⟩) 0 0, .slice (some ⟨w.heap.size + 1 + 1 + 1, 0, none⟩) 0 0] 23)) := by
    have bA : Below w.heap.size w (W.alloc (.cells #[.slice (some ⟨w.heap.size + 1, 0, none⟩) 0 0, .slice (some ⟨w.heap.size + 1 + 1, 0, none⟩) 0 0, .slice (some ⟨w.heap.size + 1 + 1 + 1, 0, none⟩) 0 0] 23)) := bW.alloc (by omega) _
    have nl : ∀ (x : Option Addr) (W' : World), LgE R S 0 W' x 0 [] := fun x W' => ⟨.inl rfl, Nat.le_refl _, fine_nil 0, fun h => absurd rfl h⟩
    refine { rs := ⟨p, Nat.le_refl _, h.below (bA.mono hn)⟩, wr := .of_below bA, hn := hn, hR := hR, S0 := by omega, row := ⟨_, by rw [← zW]; exact heap_alloc_new W _, rfl, fun i hi => ?_⟩, l := nl _ _, ls := fun j hj => ⟨_, 0, [], rfl, nl _ _⟩ }
    obtain rfl | rfl | rfl : i = 0 ∨ i = 1 ∨ i = 2 := by omega
    all_goals rfl
  have HL := Lib.hid rl0
  have HW := Lib.hid hW
  have HZ := Lib.hid zW
  have HSS := Lib.hid hS
  clear rl0 hW bW zW h
  go_enter Tryz.func42, Tryz.ntmps42
  go_wp2_with fail
  rw [← HW.out, ← hS]
  clear hS
  obtain ⟨pp, hpp, hrs⟩ := HL.out.rs
  refine (oneI n R a cap pp zs _ (hrs.below (((Below.refl _ _).alloc (Nat.le_refl _) _).mono HL.out.size)) (by omega) (S + 1) 5 (fun i => [0, 4, 10, 18, 28].getD i 0) ?_ (by have := HL.out.hR; have := HL.out.hn; have := HL.out.S0; omega) (by have := HL.out.lt; simp at this ⊢; omega) (by omega) (by omega)).mono ?_
  · intro i hi
    have e : S + 1 = (W.alloc (.cells #[.slice (some ⟨w.heap.size + 1, 0, none⟩) 0 0, .slice (some ⟨w.heap.size + 1 + 1, 0, none⟩) 0 0, .slice (some ⟨w.heap.size + 1 + 1 + 1, 0, none⟩) 0 0] 23)).heap.size := by rw [World.size_alloc, HZ.out]
    rw [e, World.cell?_alloc_at _ _ _ _ rfl]
    obtain rfl | rfl | rfl | rfl | rfl : i = 0 ∨ i = 1 ∨ i = 2 ∨ i = 3 ∨ i = 4 := by omega
    all_goals rfl
  rintro e w1 ⟨⟨i, hi, rfl⟩, hs1, hw1⟩
  have rl1 := (HL.out.alloc (.cells #[.int .i64 0, .int .i64 4, .int .i64 10, .int .i64 18, .int .i64 28] 3)).step (Q := p + 1) hw1 ⟨pp + 1, by omega, hs1⟩
  obtain ⟨N, hN, hNv⟩ : ∃ N : Nat, N ≤ 28 ∧ ([0, 4, 10, 18, 28].getD i 0 : Int) = (N : Int) := by
    obtain rfl | rfl | rfl | rfl | rfl : i = 0 ∨ i = 1 ∨ i = 2 ∨ i = 3 ∨ i = 4 := by omega
    · exact ⟨0, by omega, rfl⟩
    · exact ⟨4, by omega, rfl⟩
    · exact ⟨10, by omega, rfl⟩
    · exact ⟨18, by omega, rfl⟩
    · exact ⟨28, by omega, rfl⟩
  rw [hNv]
  have HR1 := Lib.hid rl1
  clear rl1 hs1 hw1 hrs hNv hi HL
  go_wp2
  go_loopw [3, 5] (fun v z wr => ∃ (k m : Nat) (la : Option Addr) (lc : Nat) (los : List OpV) (vs : Nat → Value), k + m ≤ 28 ∧ z = .int .i64 k ∧ v = .slice la los.length lc ∧ RL n R a cap zs w S m (p + 1 + 30 * m) la lc los vs wr) (fun _ z _ => (intOf z).toNat)
  case atStart => exact ⟨N, 0, some ⟨w.heap.size, 0, none⟩, 0, [], _, by omega, rfl, rfl, HR1.out⟩
  case round =>
    obtain ⟨k, m, la, lc, los, vs, hkm, rfl, rfl, hrl⟩ := hrel
    have HB := Lib.hid hrl
    have zwr := hrl.wr.size
    have hnR := hrl.size
    clear hrl HR1
    by_cases hk : k = 0
    · have hk0 : ¬ (0 : Int) < (k : Int) := by omega
      have hlen : los.length ≤ 28 := Nat.le_trans HB.out.l.fine.1 (by omega)
      have HE := Lib.hid (ownsO_empty wr w.heap.size zwr)
      have HRd := Lib.hid (HB.out.l.rd.below ((Below.refl wr.heap.size wr).alloc (Nat.le_refl _) (.cells #[] 39)))
      have zA : w.heap.size ≤ (wr.alloc (.cells #[] 39)).heap.size := by simp; omega
      have HZA := Lib.hid zA
      clear zA hk
      go_wp2_with (with_reducible refine appendOs (ps := los) rfl _ _ rfl rfl rfl HE.out HRd.out (by simp; omega) HZA.out ?_; intro v1 wz hown hbz hzz)
      go_ret
      have hb1 : Below w.heap.size wr wz := (((Below.refl wr.heap.size wr).alloc (Nat.le_refl _) (.cells #[] 39)).mono zwr).trans hbz
      obtain ⟨q, hq, hs⟩ := HB.out.rs
      exact ⟨⟨v1, los, rfl, hown, HB.out.l.fine.mono (by omega)⟩, ⟨q, by omega, hs.below (hb1.mono hn)⟩, ⟨hb1.os.trans HB.out.wr.os, hb1.tape.trans HB.out.wr.tape, hb1.output.trans HB.out.wr.output, Nat.le_trans HB.out.wr.size hb1.size, fun k hk hne => (hb1.block k hk).trans (HB.out.wr.block k hk hne)⟩⟩
    · have hk0 : (0 : Int) < (k : Int) := by omega
      go_wp2_with fail
      refine (rlPick 3 _ HB.out (by omega) (by omega) (by omega)).mono ?_
      rintro e w2 ⟨⟨x, hx, rfl⟩, hrl⟩
      have HC := Lib.hid hrl
      have hx0 : (0 : Int) ≤ (x : Int) := Int.natCast_nonneg _
      have hx3 : x < 3 := by omega
      clear hrl
      go_wp2_with fail
      refine (rlPick 3 _ HC.out (by omega) (by omega) (by omega)).mono ?_
      rintro e w3 ⟨⟨y, hy, rfl⟩, hrl⟩
      have HD := Lib.hid hrl
      have z3 := hrl.lt
      clear hrl HC
      rcases Nat.eq_zero_or_pos y with rfl | hy0
      · have HE := Lib.hid (ownsO_empty w3 w3.heap.size (Nat.le_refl _))
        have bE := (Below.refl w3.heap.size w3).alloc (Nat.le_refl _) (.cells #[] 39)
        have HRd := Lib.hid (HD.out.l.rd.below bE)
        have hlen : los.length ≤ 28 := Nat.le_trans HD.out.l.fine.1 (by omega)
        have HBE := Lib.hid bE
        have HZA := Lib.hid bE.size
        clear bE
        go_wp2_with ((with_reducible refine appendOs (ps := los) rfl _ _ rfl rfl rfl HE.out HRd.out (by simp; omega) HZA.out ?_); intro v1 wz hown hbz hzz; have hown2 : OwnsO wz w3.heap.size v1 los := hown; obtain ⟨a9, c9, hv9, _⟩ := ownedO hown2; have HO9 := Lib.hid hown2; have HDz := Lib.hid (HD.out.below (HBE.out.trans hbz)); obtain ⟨cz, fz⟩ := HDz.out.cell hx3; subst hv9; clear hown hown2 hbz hzz)
        have hput := HDz.out.put (x := x) (Lg.own HO9.out HDz.out.l.fine z3 (by have := HD.out.hR; have := HD.out.size; omega))
        obtain ⟨wS, hwS⟩ : ∃ wS, wS = wz.setCell ⟨S, x, none⟩ (.slice a9 los.length c9) := ⟨_, rfl⟩
        rw [← hwS] at hput ⊢
        have HP2 := Lib.hid hput
        obtain ⟨a1, c1, os1, e1, g1⟩ := hput.ls x hx3
        simp only [if_true] at e1
        rw [e1]
        have HG1 := Lib.hid g1
        clear g1 e1 hput hwS cz fz HO9 HDz HE HRd HBE HZA HD z3
        refine (rlEdit _ HP2.out (by omega) (by omega) HG1.out.rd HG1.out.fine).mono ?_
        rintro e w4 ⟨⟨o, rfl, ho⟩, hrl⟩
        have HF := Lib.hid hrl
        clear hrl HG1
        obtain ⟨wb, hwb⟩ : ∃ wb, wb = w4.alloc (.cells #[.int .i64 o.i, .int .i64 o.j, .int .i64 o.k, .int .i64 o.ts, .int .i64 o.ta, .int .i64 o.fs, .int .i64 o.fa, .int .i64 o.ns, .int .i64 o.na, .int .i64 o.v, .bool o.en, .string o.tx] 39) := ⟨_, rfl⟩
        have bxb : Box wb w4.heap.size o := by rw [hwb]; exact box_new w4 o
        have bb : Below w4.heap.size w4 wb := by rw [hwb]; exact (Below.refl _ _).alloc (Nat.le_refl _) _
        have zb : wb.heap.size = w4.heap.size + 1 := by rw [hwb]; simp
        have HBb := Lib.hid (And.intro bxb bb)
        have HWB := Lib.hid hwb
        obtain ⟨a2, c2, os2, e2, g2⟩ := (HF.out.below bb).ls x hx3
        have cx := ((HF.out.below bb).cell hx3).1
        rw [e2, hwb] at cx
        have HG2 := Lib.hid g2
        have hl2 : os2.length ≤ 28 := Nat.le_trans g2.fine.1 (by omega)
        clear g2 e2 bxb bb zb hwb
        go_wp2_with fail
        rw [← HWB.out]
        refine (spec_logVector a2 c2 os2 _ HG2.out.rd (by omega) HG2.out.fine.2.1).mono ?_
        rintro e w5 ⟨a5, c5, rfl, row5, b5⟩
        have HR5 := Lib.hid row5.rd
        clear row5 cx HG2
        go_wp2_with fail
        refine (spec_NextStamp a5 c5 _ (x : Int) _ HR5.out (by simp)).mono ?_
        rintro e w6 ⟨rfl, b6⟩
        generalize nSeq _ _ = si
        generalize nWho _ _ = sj
        have bx6 : Box w6 w4.heap.size o := by
          have z5 := b5.size
          have q := HBb.out.1.lt
          have := Box.wr (R := w6.heap.size) (Box.wr (R := w5.heap.size) HBb.out.1 (.of_below b5) (by have := b5.size; omega)) (.of_below b6) (by have := b6.size; omega)
          exact this
        have B6 : Below w4.heap.size w4 w6 := (HBb.out.2.trans (b5.mono HBb.out.2.size)).trans (b6.mono (Nat.le_trans HBb.out.2.size b5.size))
        have HX6 := Lib.hid (And.intro bx6 B6)
        clear bx6 B6 b5 b6 HR5 HBb HWB hl2
        obtain ⟨q, hq⟩ : ∃ q : OpV, q = { o with i := si, j := sj } := ⟨_, rfl⟩
        have hqt : q.tx.size ≤ 8 := by rw [hq]; exact ho
        have hqe : opL q = ((opL o).set 0 (.int .i64 si)).set 1 (.int .i64 sj) := by rw [hq]; rfl
        have HQE := Lib.hid hqe
        clear hq hqe
        have HV := Lib.hid (fun w => svop q w (by unfold maxLen; omega))
        obtain ⟨ok, hok⟩ : ∃ ok, vop q = ok := ⟨_, rfl⟩
        rw [hok] at HV
        have HOK := Lib.hid hok
        clear hok
        go_wp2_with (first
          | (refine storeB2 (k := w4.heap.size) (j := 0) rfl _ _ rfl q rfl rfl HX6.out.1 (by omega) HQE.out ?_; intro w7 bx7 hg7)
          | (refine loadI rfl _ rfl rfl (Box.range (by assumption : Box _ w4.heap.size q)) ?_))
        have B7 : Below w4.heap.size w4 w7 := HX6.out.2.grown hg7 (HX6.out.2.size) (fun k hk => by injection hk with hk; omega)
        have HX7 := Lib.hid (And.intro bx7 B7)
        clear bx7 hg7 B7 HX6 HQE
        refine (HV.out _).mono ?_
        rintro e w8 ⟨rfl, b8⟩
        have B8 : Below w4.heap.size w4 w8 := HX7.out.2.trans (b8.mono HX7.out.2.size)
        have bx8 : Box w8 w4.heap.size q := Box.wr (R := w8.heap.size) HX7.out.1 (.of_below b8) (by have := HX7.out.1.lt; have := b8.size; omega)
        have HL8 := Lib.hid (HF.out.below B8)
        have HX8 := Lib.hid bx8
        obtain ⟨x0, x1, x2, x3, x4, x5, x6, x7, x8, x9, x10, x11⟩ := c12 bx8.range
        clear b8 bx8 HX7 HV HF
        cases ok
        · go_wp2
          go_roundw
          case rel => exact ⟨k - 1, m + 1, la, lc, los, _, by omega, by congr 1; omega, rfl, HL8.out.mono (by omega) (by omega)⟩
          case measure => simp [intOf] <;> omega
        · have HFI := Lib.hid (findOp la lc los q.i q.j w8 HL8.out.l.rd (by have := HL8.out.l.fine.1; omega))
          go_wp2_with fail
          refine HFI.out.mono ?_
          rintro e w9 ⟨⟨r, rfl, hr⟩, b9⟩
          have HL9 := Lib.hid (HL8.out.below b9)
          have HX9 := Lib.hid (Box.wr (R := w9.heap.size) HX8.out (.of_below b9) (by have := HX8.out.lt; have := b9.size; omega))
          clear b9 HX8 HL8 HFI x0 x1 x2 x3 x4 x5 x6 x7 x8 x9 x10 x11
          rcases (show 0 ≤ r ∨ r < 0 by omega) with hr0 | hr0
          · have hr1 : ¬ r < 0 := by omega
            clear hr
            go_wp2
            go_roundw
            case rel => exact ⟨k - 1, m + 1, la, lc, los, _, by omega, by congr 1; omega, rfl, HL9.out.mono (by omega) (by omega)⟩
            case measure => simp [intOf] <;> omega
          · clear hr
            have HIN := Lib.hid (spec_insertOp la lc los q w9 HL9.out.l.rd (by have := HL9.out.l.fine.1; omega) HL9.out.l.le)
            go_wp2_with (refine loadI rfl _ rfl rfl (Box.range HX9.out) ?_)
            refine HIN.out.mono ?_
            rintro e w10 ⟨a6, c6, rfl, hc6, hr6, hor6, b10⟩
            have HLN := Lib.hid (LgE.ins HL9.out.l HL9.out.lt (by have := HL9.out.hR; have := HL9.out.size; omega) (HL9.out.l.fine.mstep HOK.out hqt) hc6 hr6 hor6 b10)
            have HL9b := Lib.hid (HL9.out.below b10)
            have HL10 := Lib.hid (((HL9.out.below b10).mono (m' := m + 1) (by omega) (Nat.le_refl _)).list HLN.out)
            have HX10 := Lib.hid (Box.wr (R := w10.heap.size) HX9.out (.of_below b10) (by have := HX9.out.lt; have := b10.size; omega))
            clear hc6 hr6 hor6 b10 HX9 HL9 HIN HLN
            obtain ⟨a7, c7, os7, e7, g7⟩ := (HL9b.out.ls x hx3)
            have cx := (HL10.out.cell hx3).1
            rw [e7] at cx
            obtain ⟨x0, x1, x2, x3, x4, x5, x6, x7, x8, x9, x10, x11⟩ := c12 (Box.range HX10.out)
            have HI7 := Lib.hid (spec_insertOp a7 c7 os7 q w10.drew g7.rd (by have := g7.fine.1; omega) g7.le)
            have HG7 := Lib.hid g7
            clear g7 e7 HL9b
            go_wp2
            go_region_with (first | (go_at_call 58; refine HI7.out.mono ?_; rintro e w11 ⟨a8, c8, rfl, hc8, hr8, hor8, b11⟩; have HL11 := Lib.hid (HL10.out.below (Below.drew (Below.refl w10.heap.size w10) |>.trans b11)); obtain ⟨cy, fy⟩ := HL11.out.cell hx3))
            all_goals
              have HLS := Lib.hid (LgE.ins (S := S) (R := R) (m := m) (w := w10.drew) (HG7.out.keep (Nat.le_refl _) (fun _ _ _ _ => rfl)) HL10.out.lt (by have := HL10.out.hR; have := HL10.out.size; show R < w10.heap.size; omega) (HG7.out.fine.mstep HOK.out hqt) hc8 hr8 hor8 b11)
              have HLP := Lib.hid (HL11.out.put (x := x) ⟨a8, c8, _, rfl, HLS.out⟩)
              clear hc8 hr8 hor8 b11 cy fy cx x0 x1 x2 x3 x4 x5 x6 x7 x8 x9 x10 x11
              go_wp2
              go_roundw
              case rel => exact ⟨k - 1, m + 1, a6, c6, LgZ.mstep q id los, _, by omega, by congr 1; omega, rfl, HLP.out.mono (by omega) (by omega)⟩
              case measure => simp [intOf] <;> omega
      · have hy1 : ¬ ((y : Int) = 0) := by omega
        have hy2 : ((y : Int) == 0) = false := beq_false_of_ne hy1
        obtain ⟨a1, c1, os1, e1, g1⟩ := HD.out.ls x hx3
        have cx := (HD.out.cell hx3).1
        rw [e1] at cx
        have HG1 := Lib.hid g1
        clear g1 e1
        go_wp2_with fail
        refine (rlEdit _ HD.out (by omega) (by omega) HG1.out.rd HG1.out.fine).mono ?_
        rintro e w4 ⟨⟨o, rfl, ho⟩, hrl⟩
        have HF := Lib.hid hrl
        clear hrl HG1 cx
        obtain ⟨wb, hwb⟩ : ∃ wb, wb = w4.alloc (.cells #[.int .i64 o.i, .int .i64 o.j, .int .i64 o.k, .int .i64 o.ts, .int .i64 o.ta, .int .i64 o.fs, .int .i64 o.fa, .int .i64 o.ns, .int .i64 o.na, .int .i64 o.v, .bool o.en, .string o.tx] 39) := ⟨_, rfl⟩
        have bxb : Box wb w4.heap.size o := by rw [hwb]; exact box_new w4 o
        have bb : Below w4.heap.size w4 wb := by rw [hwb]; exact (Below.refl _ _).alloc (Nat.le_refl _) _
        have zb : wb.heap.size = w4.heap.size + 1 := by rw [hwb]; simp
        have HBb := Lib.hid (And.intro bxb bb)
        have HWB := Lib.hid hwb
        obtain ⟨a2, c2, os2, e2, g2⟩ := (HF.out.below bb).ls x hx3
        have cx := ((HF.out.below bb).cell hx3).1
        rw [e2, hwb] at cx
        have HG2 := Lib.hid g2
        have hl2 : os2.length ≤ 28 := Nat.le_trans g2.fine.1 (by omega)
        clear g2 e2 bxb bb zb hwb
        go_wp2_with fail
        rw [← HWB.out]
        refine (spec_logVector a2 c2 os2 _ HG2.out.rd (by omega) HG2.out.fine.2.1).mono ?_
        rintro e w5 ⟨a5, c5, rfl, row5, b5⟩
        have HR5 := Lib.hid row5.rd
        clear row5 cx HG2
        go_wp2_with fail
        refine (spec_NextStamp a5 c5 _ (x : Int) _ HR5.out (by simp)).mono ?_
        rintro e w6 ⟨rfl, b6⟩
        generalize nSeq _ _ = si
        generalize nWho _ _ = sj
        have bx6 : Box w6 w4.heap.size o := by
          have z5 := b5.size
          have q := HBb.out.1.lt
          have := Box.wr (R := w6.heap.size) (Box.wr (R := w5.heap.size) HBb.out.1 (.of_below b5) (by have := b5.size; omega)) (.of_below b6) (by have := b6.size; omega)
          exact this
        have B6 : Below w4.heap.size w4 w6 := (HBb.out.2.trans (b5.mono HBb.out.2.size)).trans (b6.mono (Nat.le_trans HBb.out.2.size b5.size))
        have HX6 := Lib.hid (And.intro bx6 B6)
        clear bx6 B6 b5 b6 HR5 HBb HWB hl2
        obtain ⟨q, hq⟩ : ∃ q : OpV, q = { o with i := si, j := sj } := ⟨_, rfl⟩
        have hqt : q.tx.size ≤ 8 := by rw [hq]; exact ho
        have hqe : opL q = ((opL o).set 0 (.int .i64 si)).set 1 (.int .i64 sj) := by rw [hq]; rfl
        have HQE := Lib.hid hqe
        clear hq hqe
        have HV := Lib.hid (fun w => svop q w (by unfold maxLen; omega))
        obtain ⟨ok, hok⟩ : ∃ ok, vop q = ok := ⟨_, rfl⟩
        rw [hok] at HV
        have HOK := Lib.hid hok
        clear hok
        go_wp2_with (first
          | (refine storeB2 (k := w4.heap.size) (j := 0) rfl _ _ rfl q rfl rfl HX6.out.1 (by omega) HQE.out ?_; intro w7 bx7 hg7)
          | (refine loadI rfl _ rfl rfl (Box.range (by assumption : Box _ w4.heap.size q)) ?_))
        have B7 : Below w4.heap.size w4 w7 := HX6.out.2.grown hg7 (HX6.out.2.size) (fun k hk => by injection hk with hk; omega)
        have HX7 := Lib.hid (And.intro bx7 B7)
        clear bx7 hg7 B7 HX6 HQE
        refine (HV.out _).mono ?_
        rintro e w8 ⟨rfl, b8⟩
        have B8 : Below w4.heap.size w4 w8 := HX7.out.2.trans (b8.mono HX7.out.2.size)
        have bx8 : Box w8 w4.heap.size q := Box.wr (R := w8.heap.size) HX7.out.1 (.of_below b8) (by have := HX7.out.1.lt; have := b8.size; omega)
        have HL8 := Lib.hid (HF.out.below B8)
        have HX8 := Lib.hid bx8
        obtain ⟨x0, x1, x2, x3, x4, x5, x6, x7, x8, x9, x10, x11⟩ := c12 bx8.range
        clear b8 bx8 HX7 HV HF
        cases ok
        · go_wp2
          go_roundw
          case rel => exact ⟨k - 1, m + 1, la, lc, los, _, by omega, by congr 1; omega, rfl, HL8.out.mono (by omega) (by omega)⟩
          case measure => simp [intOf] <;> omega
        · have HFI := Lib.hid (findOp la lc los q.i q.j w8 HL8.out.l.rd (by have := HL8.out.l.fine.1; omega))
          go_wp2_with fail
          refine HFI.out.mono ?_
          rintro e w9 ⟨⟨r, rfl, hr⟩, b9⟩
          have HL9 := Lib.hid (HL8.out.below b9)
          have HX9 := Lib.hid (Box.wr (R := w9.heap.size) HX8.out (.of_below b9) (by have := HX8.out.lt; have := b9.size; omega))
          clear b9 HX8 HL8 HFI x0 x1 x2 x3 x4 x5 x6 x7 x8 x9 x10 x11
          rcases (show 0 ≤ r ∨ r < 0 by omega) with hr0 | hr0
          · have hr1 : ¬ r < 0 := by omega
            clear hr
            go_wp2
            go_roundw
            case rel => exact ⟨k - 1, m + 1, la, lc, los, _, by omega, by congr 1; omega, rfl, HL9.out.mono (by omega) (by omega)⟩
            case measure => simp [intOf] <;> omega
          · clear hr
            have HIN := Lib.hid (spec_insertOp la lc los q w9 HL9.out.l.rd (by have := HL9.out.l.fine.1; omega) HL9.out.l.le)
            go_wp2_with (refine loadI rfl _ rfl rfl (Box.range HX9.out) ?_)
            refine HIN.out.mono ?_
            rintro e w10 ⟨a6, c6, rfl, hc6, hr6, hor6, b10⟩
            have HLN := Lib.hid (LgE.ins HL9.out.l HL9.out.lt (by have := HL9.out.hR; have := HL9.out.size; omega) (HL9.out.l.fine.mstep HOK.out hqt) hc6 hr6 hor6 b10)
            have HL9b := Lib.hid (HL9.out.below b10)
            have HL10 := Lib.hid (((HL9.out.below b10).mono (m' := m + 1) (by omega) (Nat.le_refl _)).list HLN.out)
            have HX10 := Lib.hid (Box.wr (R := w10.heap.size) HX9.out (.of_below b10) (by have := HX9.out.lt; have := b10.size; omega))
            clear hc6 hr6 hor6 b10 HX9 HL9 HIN HLN
            obtain ⟨a7, c7, os7, e7, g7⟩ := (HL9b.out.ls x hx3)
            have cx := (HL10.out.cell hx3).1
            rw [e7] at cx
            obtain ⟨x0, x1, x2, x3, x4, x5, x6, x7, x8, x9, x10, x11⟩ := c12 (Box.range HX10.out)
            have HI7 := Lib.hid (spec_insertOp a7 c7 os7 q w10.drew g7.rd (by have := g7.fine.1; omega) g7.le)
            have HG7 := Lib.hid g7
            clear g7 e7 HL9b
            go_wp2
            go_region_with (first | (go_at_call 58; refine HI7.out.mono ?_; rintro e w11 ⟨a8, c8, rfl, hc8, hr8, hor8, b11⟩; have HL11 := Lib.hid (HL10.out.below (Below.drew (Below.refl w10.heap.size w10) |>.trans b11)); obtain ⟨cy, fy⟩ := HL11.out.cell hx3))
            all_goals
              have HLS := Lib.hid (LgE.ins (S := S) (R := R) (m := m) (w := w10.drew) (HG7.out.keep (Nat.le_refl _) (fun _ _ _ _ => rfl)) HL10.out.lt (by have := HL10.out.hR; have := HL10.out.size; show R < w10.heap.size; omega) (HG7.out.fine.mstep HOK.out hqt) hc8 hr8 hor8 b11)
              have HLP := Lib.hid (HL11.out.put (x := x) ⟨a8, c8, _, rfl, HLS.out⟩)
              clear hc8 hr8 hor8 b11 cy fy cx x0 x1 x2 x3 x4 x5 x6 x7 x8 x9 x10 x11
              go_wp2
              go_roundw
              case rel => exact ⟨k - 1, m + 1, a6, c6, LgZ.mstep q id los, _, by omega, by congr 1; omega, rfl, HLP.out.mono (by omega) (by omega)⟩
              case measure => simp [intOf] <;> omega

end Go.Proofs.YtlogpbejfifgdaaGreat.RfB
