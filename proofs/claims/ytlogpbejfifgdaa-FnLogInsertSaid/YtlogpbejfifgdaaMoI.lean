/-
  The walk of the law FnLogInsert: it returns true, whatever the bytes. No condition.
-/
import Derived.Test.YtlogpbejfifgdaaMoH
import Derived.Test.YtlogpbejfifgdaaMoB
import Derived.Test.YtlogpbejfifgdaaMoC
import Derived.Test.YtlogpbejfifgdaaLhD
import Derived.Test.YtlogpbejfifgdaaK2
import Derived.Outline
namespace Go.Proofs.Ytlogpbejfifgdaa.MoI
open Go.RowKit Go.Proofs.Ytlogpbejfifgdaa.Base Go.Proofs.Ytlogpbejfifgdaa.St Go.Proofs.Ytlogpbejfifgdaa.StB Go.Proofs.Ytlogpbejfifgdaa.OpA Go.Proofs.Ytlogpbejfifgdaa.OpB Go.Proofs.Ytlogpbejfifgdaa.LgA Go.Proofs.Ytlogpbejfifgdaa.LgB Go.Proofs.Ytlogpbejfifgdaa.LgC Go.Proofs.Ytlogpbejfifgdaa.LgF Go.Proofs.Ytlogpbejfifgdaa.LgH Go.Proofs.Ytlogpbejfifgdaa.LgI Go.Proofs.Ytlogpbejfifgdaa.LgP Go.Proofs.Ytlogpbejfifgdaa.LgT Go.Proofs.Ytlogpbejfifgdaa.LgZ Go.Proofs.Ytlogpbejfifgdaa.LhA Go.Proofs.Ytlogpbejfifgdaa.LhB Go.Proofs.Ytlogpbejfifgdaa.LhD Go.Proofs.Ytlogpbejfifgdaa.RdA Go.Proofs.Ytlogpbejfifgdaa.RdB Go.Proofs.Ytlogpbejfifgdaa.RdC Go.Proofs.Ytlogpbejfifgdaa.RdD Go.Proofs.Ytlogpbejfifgdaa.RgC Go.Proofs.Ytlogpbejfifgdaa.MoA Go.Proofs.Ytlogpbejfifgdaa.MoB Go.Proofs.Ytlogpbejfifgdaa.MoC Go.Proofs.Ytlogpbejfifgdaa.MoH
set_option linter.unusedVariables false

theorem newOp (w0 : World) (o : OpV) : (w0.alloc (.cells #[.int .i64 o.i, .int .i64 o.j, .int .i64 o.k, .int .i64 o.ts, .int .i64 o.ta, .int .i64 o.fs, .int .i64 o.fa, .int .i64 o.ns, .int .i64 o.na, .int .i64 o.v, .bool o.en, .string o.tx] 27)).rangeAt w0.heap.size 0 (opL o) :=
  fun j u hu => by have := news w0 o j u hu; rwa [Addr.add_mid] at this
theorem rowO_cap {lo : Nat} {w : World} {a : Option Addr} {c n : Nat} {f : Nat → OpV} (h : RowO lo w a c n f) : n ≤ c := by
  rcases h with ⟨_, h0⟩ | ⟨b, _, _, ⟨g, _, hn, _⟩⟩
  · omega
  · exact hn
theorem getD_mem' {os : List OpV} {k : Nat} (h : k < os.length) : os.getD k zop ∈ os := by
  rw [List.getD_eq_getElem?_getD, List.getElem?_eq_getElem h]
  exact List.getElem_mem h
theorem mem_getD' {os : List OpV} {p : OpV} (h : p ∈ os) : ∃ k, k < os.length ∧ os.getD k zop = p := by
  obtain ⟨k, hk, e⟩ := List.getElem_of_mem h
  exact ⟨k, hk, by rw [List.getD_eq_getElem?_getD, List.getElem?_eq_getElem hk]; exact e⟩
theorem ins_le (e : OpV) : ∀ s : List OpV, (mstep e id s).length ≤ s.length + 1
  | [] => by simp [mstep]
  | x :: r => by
    rw [ins_cons]
    have := ins_le e r
    split
    · simp; omega
    · split <;> simp
theorem insL_le (os : List OpV) (o : OpV) : (insL os o).length ≤ os.length + 1 := by
  unfold insL
  split
  · split
    · exact ins_le o os
    · omega
  · simp
theorem insL_mem {os : List OpV} {o : OpV} {p : OpV} (h : p ∈ insL os o) : p ∈ os ∨ p = o := by
  unfold insL at h
  split at h
  next hv =>
    split at h
    · rcases (mem_ins o os ((vlog_iff os).1 hv).2.2 p).1 h with h | h
      · exact .inl h
      · exact .inr h.1
    · exact .inl h
  · cases h
theorem insL_short {os : List OpV} {o : OpV} {N : Nat} (h : ∀ k, k < os.length → (os.getD k zop).tx.size ≤ N) (ho : o.tx.size ≤ N) : ∀ k, k < (insL os o).length → ((insL os o).getD k zop).tx.size ≤ N := by
  intro k hk
  rcases insL_mem (getD_mem' hk) with h1 | h1
  · obtain ⟨j, hj, e⟩ := mem_getD' h1
    rw [← e]
    exact h j hj
  · rw [h1]
    exact ho
/-- All that the law asks, by places. -/
theorem ins_places {os : List OpV} {o : OpV} (h : insT os o = true) :
    vlog (insL os o) = true ∧ insT (insL os o) o = true ∧ insL (insL os o) o = insL os o ∧
    (∀ i, i < os.length → (∃ m, m < (insL os o).length ∧ ((insL os o).getD m zop).i = (os.getD i zop).i ∧ ((insL os o).getD m zop).j = (os.getD i zop).j)) ∧
    (∀ i m, i < os.length → m < (insL os o).length → ((insL os o).getD m zop).i = (os.getD i zop).i → ((insL os o).getD m zop).j = (os.getD i zop).j → (insL os o).getD m zop = os.getD i zop) ∧
    (∃ m, m < (insL os o).length ∧ ((insL os o).getD m zop).i = o.i ∧ ((insL os o).getD m zop).j = o.j) ∧
    ((∃ m, m < os.length ∧ (os.getD m zop).i = o.i ∧ (os.getD m zop).j = o.j) → (insL os o).length = os.length) ∧
    ((∀ m, m < os.length → ¬((os.getD m zop).i = o.i ∧ (os.getD m zop).j = o.j)) → (insL os o).length = os.length + 1) := by
  obtain ⟨h1, h2, h3, h4, h5, h6, h7, h8⟩ := ins_law h
  have hs := ((vlog_iff _).1 h2).2.2
  refine ⟨h2, h3, h4, fun i hi => ?_, fun i m hi hm e1 e2 => srt_once hs (getD_mem' hm) (h5 _ (getD_mem' hi)) ⟨e1, e2⟩, ?_, fun ⟨m, hm, e1, e2⟩ => h7 ⟨_, getD_mem' hm, e1, e2⟩, fun hno => h8 ?_⟩
  · obtain ⟨m, hm, e⟩ := mem_getD' (h5 _ (getD_mem' hi))
    exact ⟨m, hm, by rw [e], by rw [e]⟩
  · obtain ⟨q, hq, e1, e2⟩ := h6
    obtain ⟨m, hm, e⟩ := mem_getD' hq
    exact ⟨m, hm, by rw [e]; exact e1, by rw [e]; exact e2⟩
  · rintro ⟨q, hq, e1, e2⟩
    obtain ⟨m, hm, e⟩ := mem_getD' hq
    exact hno m hm ⟨by rw [e]; exact e1, by rw [e]; exact e2⟩

set_option maxRecDepth 100000 in
set_option maxHeartbeats 8000000 in
theorem walk (a0 : Option Addr) (len0 cap0 : Nat) (z0 : List Int) (w : World) (r0 : IsRow .u8 w a0 len0 cap0 z0) :
    Calls Try.prog 3 #[.slice a0 len0 cap0] w fun e w' => e = .returned (.bool true) ∧ Below w.heap.size w w' := by
  obtain ⟨xs, rfl, hx, rx⟩ := bytes_rd r0
  clear r0
  by_cases l0 : (1048576 : Int) < (xs.length : Int)
  · clear rx
    go_enter Try.func3, Try.ntmps3
    go_wp2
    go_ret
    exact ⟨rfl, Below.refl _ _⟩
  have HD := Lib.hid (drawInsert a0 cap0 xs w rx hx)
  clear rx hx
  go_enter Try.func3, Try.ntmps3
  go_wp2_with fail
  refine HD.out.mono ?_
  rintro e w1 ⟨⟨A, c, os, o, rfl, hrow, hlen, ht, hto⟩, b1⟩
  have hz1 := b1.size
  have hcap := rowO_cap hrow
  have htm : ∀ k, k < os.length → (os.getD k zop).tx.size ≤ maxLen := fun k hk => by have := ht k hk; unfold maxLen; omega
  have hom : o.tx.size ≤ maxLen := by unfold maxLen; omega
  have hLl := insL_le os o
  have hLs := insL_short htm hom
  have hI := fun W (hb : Below w1.heap.size w1 W) => impl_LogInsert A c os o W (hrow.rd.below hb) (by omega) hcap htm hom
  have hS := fun W (hb : Below w1.heap.size w1 W) => spec_LogInsert A c os o W (hrow.rd.below hb) (by omega) hcap htm hom
  have hV := fun W (hb : Below w1.heap.size w1 W) => impl_ValidLog ivop A c os W (hrow.rd.below hb) (by omega) htm
  have hVs := fun W (hb : Below w1.heap.size w1 W) => spec_ValidLog A c os W (hrow.rd.below hb) (by omega) htm
  have hVL := fun a c W (h : RdO W a (insL os o)) => impl_ValidLog ivop a c (insL os o) W h (by omega) hLs
  have hI2 := fun a c W (h : RdO W a (insL os o)) (hc : (insL os o).length ≤ c) => impl_LogInsert a c (insL os o) o W h (by omega) hc hLs hom
  have hEL := fun a2 c2 a3 c3 W (h : RdO W a2 (insL os o)) (h' : RdO W a3 (insL os o)) => equalLogs a2 a3 c2 c3 (insL os o) W h h' (by omega)
  have hEO := fun a2 c2 W (h : RdO W a2 os) (hb : Below w1.heap.size w1 W) => equalLogs a2 A c2 c os W h (hrow.rd.below hb) (by omega)
  have HFo := Lib.hid (fun W (hb : Below w1.heap.size w1 W) => findOp A c os o.i o.j W (hrow.rd.below hb) (by omega))
  have hFL := fun a c i j W (h : RdO W a (insL os o)) => findOp a c (insL os o) i j W h (by omega)
  obtain ⟨T, hT⟩ : ∃ T, insT os o = T := ⟨_, rfl⟩
  obtain ⟨ok, hok⟩ : ∃ ok, vlog os = ok := ⟨_, rfl⟩
  rw [hT] at hI hS
  rw [hok] at hV hVs
  have hNo := fun (h : ok = true) (h' : T = false) => ins_no (os := os) (o := o) (by rw [hok]; exact h) (by rw [hT]; exact h')
  have hYes := fun (h : T = true) => ins_places (os := os) (o := o) (by rw [hT]; exact h)
  have HRow := Lib.hid hrow.rd
  have HB1 := Lib.hid b1
  have HN := Lib.hid (newOp w1 o)
  obtain ⟨L, hL⟩ : ∃ L, L = insL os o := ⟨_, rfl⟩
  rw [← hL] at hLl hI hS hVL hI2 hEL hFL hNo hYes
  have HI := Lib.hid hI
  have HS := Lib.hid hS
  have HV := Lib.hid hV
  have HVs := Lib.hid hVs
  have HVL := Lib.hid hVL
  have HI2 := Lib.hid hI2
  have HEL := Lib.hid hEL
  have HEO := Lib.hid hEO
  have HFL := Lib.hid hFL
  have HNo := Lib.hid hNo
  have HYes := Lib.hid hYes
  clear hI hS hV hVs hVL hI2 hEL hEO hFL hNo hYes hL hT hok hrow ht hto htm hom hLs hcap HD l0 b1
  obtain ⟨w2, hw2⟩ : ∃ w2, w2 = w1.alloc (.cells #[.int .i64 o.i, .int .i64 o.j, .int .i64 o.k, .int .i64 o.ts, .int .i64 o.ta, .int .i64 o.fs, .int .i64 o.fa, .int .i64 o.ns, .int .i64 o.na, .int .i64 o.v, .bool o.en, .string o.tx] 27) := ⟨_, rfl⟩
  have b2 : Below w1.heap.size w1 w2 := by rw [hw2]; exact (Below.refl _ _).alloc (Nat.le_refl _) _
  have hn2 : w1.heap.size < w2.heap.size := by rw [hw2]; simp
  have r2 : w2.rangeAt w1.heap.size 0 (opL o) := by rw [hw2]; exact HN.out
  have HR := Lib.hid (fun W (hW : Below w2.heap.size w2 W) => (rangeAt_below r2 hW hn2 : W.rangeAt w1.heap.size 0 (opL o)))
  have HB2 := Lib.hid b2
  have HW2 := Lib.hid hw2
  have h12 : w1.heap.size ≤ w2.heap.size := by omega
  clear b2 r2 hw2
  go_wp2_with (refine loadI rfl _ rfl rfl HN.out ?_)
  rw [← HW2.out]
  refine (HI.out _ HB2.out).mono ?_
  rintro e w3 ⟨a3, c3, rfl, row3, b3⟩
  have hc3 := rowO_cap row3
  have HX3 := Lib.hid row3.rd
  have HB3 := Lib.hid b3
  have hz3 := b3.size
  have HO3 := Lib.hid (HR.out _ b3)
  clear row3 b3 HN HI
  go_wp2_with (refine loadI rfl _ rfl rfl HO3.out ?_)
  refine (HS.out _ (HB2.out.trans (HB3.out.mono h12))).mono ?_
  rintro e w4 ⟨a4, c4, rfl, row4, b4⟩
  have HY4 := Lib.hid row4.rd
  have HX4 := Lib.hid (HX3.out.below b4)
  have HB4 := Lib.hid (HB3.out.trans (b4.mono hz3))
  have hz4 := HB4.out.size
  clear row4 b4 HS HX3 HB3 HO3
  have hTT : (T != T) = false := by cases T <;> rfl
  have hTE : (T == T) = true := by cases T <;> rfl
  have hPP : (ok != ok) = false := by cases ok <;> rfl
  have hPE : (ok == ok) = true := by cases ok <;> rfl
  go_wp2_with fail
  refine (HEL.out _ _ _ _ _ HX4.out HY4.out).mono ?_
  rintro e w5 ⟨rfl, b5⟩
  have HX5 := Lib.hid (HX4.out.below b5)
  have HY5 := Lib.hid (HY4.out.below b5)
  have HB5 := Lib.hid (HB4.out.trans (b5.mono hz4))
  have hz5 := HB5.out.size
  clear b5 HX4 HY4 HB4
  go_wp2_with fail
  refine (HV.out _ (HB2.out.trans (HB5.out.mono h12))).mono ?_
  rintro e w6 ⟨rfl, b6⟩
  have HX6 := Lib.hid (HX5.out.below b6)
  have HY6 := Lib.hid (HY5.out.below b6)
  have HB6 := Lib.hid (HB5.out.trans (b6.mono hz5))
  have hz6 := HB6.out.size
  clear b6 HX5 HY5 HB5
  go_wp2_with fail
  refine (HVs.out _ (HB2.out.trans (HB6.out.mono h12))).mono ?_
  rintro e w7 ⟨rfl, b7⟩
  have HX7 := Lib.hid (HX6.out.below b7)
  have HY7 := Lib.hid (HY6.out.below b7)
  have HB7 := Lib.hid (HB6.out.trans (b7.mono hz6))
  have hz7 := HB7.out.size
  clear b7 HX6 HY6 HB6
  go_wp2_with fail
  refine (HV.out _ (HB2.out.trans (HB7.out.mono h12))).mono ?_
  rintro e w8 ⟨rfl, b8⟩
  have HX8 := Lib.hid (HX7.out.below b8)
  have HY8 := Lib.hid (HY7.out.below b8)
  have HB8 := Lib.hid (HB7.out.trans (b8.mono hz7))
  have hz8 := HB8.out.size
  clear b8 HX7 HY7 HB7
  cases ok
  · go_wp2_with fail
    refine (HEL.out _ _ _ _ _ HX8.out HY8.out).mono ?_
    rintro e w9 ⟨rfl, b9⟩
    have HB9 := Lib.hid (HB8.out.trans (b9.mono hz8))
    have hz9 := HB9.out.size
    clear b9
    go_wp2_with fail
    refine (HV.out _ (HB2.out.trans (HB9.out.mono h12))).mono ?_
    rintro e w10 ⟨rfl, b10⟩
    have HB10 := Lib.hid (HB9.out.trans (b10.mono hz9))
    have hz10 := HB10.out.size
    clear b10
    go_wp2_with fail
    refine (HVs.out _ (HB2.out.trans (HB10.out.mono h12))).mono ?_
    rintro e w11 ⟨rfl, b11⟩
    have HB11 := Lib.hid (HB10.out.trans (b11.mono hz10))
    clear b11
    go_wp2
    go_ret
    exact ⟨rfl, HB1.out.trans ((HB2.out.trans (HB11.out.mono h12)).mono hz1)⟩
  clear hPP hPE HV HVs HY8
  cases T
  · have hLo := HNo.out (by first | rfl | trivial) (by first | rfl | trivial)
    subst hLo
    go_wp2_with fail
    refine (HEO.out _ _ _ HX8.out (HB2.out.trans (HB8.out.mono h12))).mono ?_
    rintro e w9 ⟨rfl, b9⟩
    have HB9 := Lib.hid (HB8.out.trans (b9.mono hz8))
    clear b9
    go_wp2
    go_ret
    exact ⟨rfl, HB1.out.trans ((HB2.out.trans (HB9.out.mono h12)).mono hz1)⟩
  obtain ⟨k1, k2, k3, k4, k5, k6, k7, k8⟩ := HYes.out (by first | rfl | trivial)
  rw [k1] at HVL
  rw [k2, k3] at HI2
  have K4 := Lib.hid k4
  have K5 := Lib.hid k5
  have K6 := Lib.hid k6
  have K7 := Lib.hid k7
  have K8 := Lib.hid k8
  clear k1 k2 k3 k4 k5 k6 k7 k8 HYes HNo hTT hTE HEO
  obtain ⟨q0, q1, q2, q3, q4, q5, q6, q7, q8, q9, q10, q11⟩ := c12 (HR.out _ HB8.out)
  clear q2 q3 q4 q5 q6 q7 q8 q9 q10 q11
  go_wp2_with fail
  refine (HFo.out _ (HB2.out.trans (HB8.out.mono h12))).mono ?_
  rintro e w9 ⟨hres, b9⟩
  have HX9 := Lib.hid (HX8.out.below b9)
  have HB9 := Lib.hid (HB8.out.trans (b9.mono hz8))
  have hz9 := HB9.out.size
  clear b9 q0 q1 HFo HX8 HB8
  obtain ⟨M, hM⟩ : ∃ M : Int, M = (L.length : Int) := ⟨_, rfl⟩
  have HM := Lib.hid hM
  have hcase : (∃ k : Nat, e = .returned (.int .i64 k) ∧ L.length = os.length) ∨ (e = .returned (.int .i64 (-1)) ∧ L.length = os.length + 1) := by
    rcases hres with ⟨k, e1, e2, e3, e4⟩ | ⟨e1, e2⟩
    · exact .inl ⟨k, e1, K7.out ⟨k, e2, e3, e4⟩⟩
    · exact .inr ⟨e1, K8.out e2⟩
  clear hres K7 K8 hM
  have key : ∀ (Z : Int), Z = M → True := fun _ _ => trivial
  clear key
  rcases hcase with ⟨kk, rfl, hLL⟩ | ⟨rfl, hLL⟩
  · have HLL := Lib.hid hLL
    clear hLL
    have hkk : (0 : Int) ≤ (kk : Int) := Int.natCast_nonneg _
    go_wp2
    go_loopw [11] (fun i wr => ∃ k : Nat, k ≤ os.length ∧ i = .int .i64 k ∧ Below w9.heap.size w9 wr) (fun i _ => os.length - (intOf i).toNat)
    case atStart => exact ⟨0, Nat.zero_le _, rfl, Below.refl _ _⟩
    case round =>
      obtain ⟨k, hk, rfl, hnx⟩ := hrel
      have HBn := Lib.hid (HB9.out.trans (hnx.mono hz9))
      have hzn := HBn.out.size
      have HXn := Lib.hid (HX9.out.below hnx)
      have HNX := Lib.hid hnx
      have hzx := hnx.size
      clear hnx
      by_cases hlt : k < os.length
      · rcases HRow.out with h0 | ⟨b, off, rfl, hc⟩
        · rw [h0] at hlt; exact absurd hlt (by simp)
        obtain ⟨q, hq⟩ : ∃ q, q = os.getD k zop := ⟨_, rfl⟩
        have HRQ := Lib.hid (by rw [hq]; exact rangeAt_below (hc k hlt) (HB2.out.trans (HBn.out.mono h12)) (rangeAt_lt (hc k hlt)) : wr.rangeAt b (off + k * 12) (opL q))
        have H4 := Lib.hid (by have := K4.out k hlt; rwa [← hq] at this : ∃ m, m < L.length ∧ (L.getD m zop).i = q.i ∧ (L.getD m zop).j = q.j)
        have H5 := Lib.hid (fun m hm => by have := K5.out k m hlt hm; rwa [← hq] at this : ∀ m, m < L.length → (L.getD m zop).i = q.i → (L.getD m zop).j = q.j → L.getD m zop = q)
        have hk0 : (0 : Int) ≤ (k : Int) := Int.natCast_nonneg _
        have hk1 : (k : Int) < (os.length : Int) := by omega
        obtain ⟨q0, q1, q2, q3, q4, q5, q6, q7, q8, q9, q10, q11⟩ := c12 HRQ.out
        clear hq hc q2 q3 q4 q5 q6 q7 q8 q9 q10 q11
        go_wp2_with fail
        refine (HFL.out _ _ _ _ _ HXn.out).mono ?_
        rintro e w10 ⟨⟨j, rfl, hj, hji, hjj⟩ | ⟨rfl, hno⟩, b10⟩
        · have e5 := H5.out j hj hji hjj
          have HR1 := Lib.hid (rangeAt_below HRQ.out b10 (rangeAt_lt HRQ.out))
          have HX10 := Lib.hid (HXn.out.below b10)
          have HB10 := Lib.hid (HNX.out.trans (b10.mono hzx))
          rcases HX10.out with h0 | ⟨b', off', rfl, hc'⟩
          · rw [h0] at hj; exact absurd hj (by simp)
          have HR2 := Lib.hid (by have := hc' j hj; rwa [e5] at this : w10.rangeAt b' (off' + j * 12) (opL q))
          have hj0 : (0 : Int) ≤ (j : Int) := Int.natCast_nonneg _
          have hj1 : (j : Int) < (L.length : Int) := by omega
          have hne := neqOp' q
          clear b10 hc' e5 hji hjj hj q0 q1 H4 H5
          go_wp2
          go_region_held3 (fun w' => C12 w' b' (off' + j * 12) q ∧ C12 w' b (off + k * 12) q ∧ Below w10.heap.size w10 w')
            (first | exact ⟨c12 HR2.out, c12 HR1.out, (Below.refl _ _).drew⟩ | assumption)
            (first | fail)
          go_wp2
          go_roundw
          case rel => exact ⟨k + 1, by omega, by go_num, HB10.out.trans ((And.right (And.right (by assumption : C12 _ b' (off' + j * 12) q ∧ C12 _ b (off + k * 12) q ∧ Below w10.heap.size w10 _))).mono (by have := HB10.out.size; omega))⟩
          case measure => simp [intOf]; omega
        · obtain ⟨m, hm, e1, e2⟩ := H4.out
          exact absurd ⟨e1, e2⟩ (hno m hm)
      · obtain rfl : k = os.length := by omega
        have HO := Lib.hid (HR.out _ HBn.out)
        go_wp2_with (refine loadI rfl _ rfl rfl HO.out ?_)
        refine (HI2.out _ _ _ HXn.out hc3).mono ?_
        rintro e w10 ⟨a10, c10, rfl, row10, b10⟩
        have HZ10 := Lib.hid row10.rd
        have HX10 := Lib.hid (HXn.out.below b10)
        have HB10 := Lib.hid (HBn.out.trans (b10.mono hzn))
        have hz10 := HB10.out.size
        clear row10 b10 HO HXn
        go_wp2_with fail
        refine (HVL.out _ _ _ HX10.out).mono ?_
        rintro e w11 ⟨rfl, b11⟩
        have HZ11 := Lib.hid (HZ10.out.below b11)
        have HX11 := Lib.hid (HX10.out.below b11)
        have HB11 := Lib.hid (HB10.out.trans (b11.mono hz10))
        have hz11 := HB11.out.size
        obtain ⟨q0, q1, q2, q3, q4, q5, q6, q7, q8, q9, q10, q11⟩ := c12 (HR.out _ HB11.out)
        clear b11 q2 q3 q4 q5 q6 q7 q8 q9 q10 q11 HZ10 HX10
        have hll : ((L.length : Int) == (os.length : Int)) = true := by rw [HLL.out]; simp
        go_wp2_with fail
        refine (HFL.out _ _ _ _ _ HX11.out).mono ?_
        rintro e w12 ⟨⟨j, rfl, hj, hji, hjj⟩ | ⟨rfl, hno⟩, b12⟩
        · have HZ12 := Lib.hid (HZ11.out.below b12)
          have HX12 := Lib.hid (HX11.out.below b12)
          have HB12 := Lib.hid (HB11.out.trans (b12.mono hz11))
          have hz12 := HB12.out.size
          have hj0 : (0 : Int) ≤ (j : Int) := Int.natCast_nonneg _
          clear b12 q0 q1 hj hji hjj
          go_wp2_with fail
          refine (HEL.out _ _ _ _ _ HZ12.out HX12.out).mono ?_
          rintro e w13 ⟨rfl, b13⟩
          have HB13 := Lib.hid (HB12.out.trans (b13.mono hz12))
          clear b13
          go_wp2
          go_ret
          exact ⟨rfl, HB1.out.trans ((HB2.out.trans (HB13.out.mono h12)).mono hz1)⟩
        · obtain ⟨m, hm, e1, e2⟩ := K6.out
          exact absurd ⟨e1, e2⟩ (hno m hm)
  · have HLL := Lib.hid hLL
    clear hLL
    go_wp2
    go_loopw [11] (fun i wr => ∃ k : Nat, k ≤ os.length ∧ i = .int .i64 k ∧ Below w9.heap.size w9 wr) (fun i _ => os.length - (intOf i).toNat)
    case atStart => exact ⟨0, Nat.zero_le _, rfl, Below.refl _ _⟩
    case round =>
      obtain ⟨k, hk, rfl, hnx⟩ := hrel
      have HBn := Lib.hid (HB9.out.trans (hnx.mono hz9))
      have hzn := HBn.out.size
      have HXn := Lib.hid (HX9.out.below hnx)
      have HNX := Lib.hid hnx
      have hzx := hnx.size
      clear hnx
      by_cases hlt : k < os.length
      · rcases HRow.out with h0 | ⟨b, off, rfl, hc⟩
        · rw [h0] at hlt; exact absurd hlt (by simp)
        obtain ⟨q, hq⟩ : ∃ q, q = os.getD k zop := ⟨_, rfl⟩
        have HRQ := Lib.hid (by rw [hq]; exact rangeAt_below (hc k hlt) (HB2.out.trans (HBn.out.mono h12)) (rangeAt_lt (hc k hlt)) : wr.rangeAt b (off + k * 12) (opL q))
        have H4 := Lib.hid (by have := K4.out k hlt; rwa [← hq] at this : ∃ m, m < L.length ∧ (L.getD m zop).i = q.i ∧ (L.getD m zop).j = q.j)
        have H5 := Lib.hid (fun m hm => by have := K5.out k m hlt hm; rwa [← hq] at this : ∀ m, m < L.length → (L.getD m zop).i = q.i → (L.getD m zop).j = q.j → L.getD m zop = q)
        have hk0 : (0 : Int) ≤ (k : Int) := Int.natCast_nonneg _
        have hk1 : (k : Int) < (os.length : Int) := by omega
        obtain ⟨q0, q1, q2, q3, q4, q5, q6, q7, q8, q9, q10, q11⟩ := c12 HRQ.out
        clear hq hc q2 q3 q4 q5 q6 q7 q8 q9 q10 q11
        go_wp2_with fail
        refine (HFL.out _ _ _ _ _ HXn.out).mono ?_
        rintro e w10 ⟨⟨j, rfl, hj, hji, hjj⟩ | ⟨rfl, hno⟩, b10⟩
        · have e5 := H5.out j hj hji hjj
          have HR1 := Lib.hid (rangeAt_below HRQ.out b10 (rangeAt_lt HRQ.out))
          have HX10 := Lib.hid (HXn.out.below b10)
          have HB10 := Lib.hid (HNX.out.trans (b10.mono hzx))
          rcases HX10.out with h0 | ⟨b', off', rfl, hc'⟩
          · rw [h0] at hj; exact absurd hj (by simp)
          have HR2 := Lib.hid (by have := hc' j hj; rwa [e5] at this : w10.rangeAt b' (off' + j * 12) (opL q))
          have hj0 : (0 : Int) ≤ (j : Int) := Int.natCast_nonneg _
          have hj1 : (j : Int) < (L.length : Int) := by omega
          have hne := neqOp' q
          clear b10 hc' e5 hji hjj hj q0 q1 H4 H5
          go_wp2
          go_region_held3 (fun w' => C12 w' b' (off' + j * 12) q ∧ C12 w' b (off + k * 12) q ∧ Below w10.heap.size w10 w')
            (first | exact ⟨c12 HR2.out, c12 HR1.out, (Below.refl _ _).drew⟩ | assumption)
            (first | fail)
          go_wp2
          go_roundw
          case rel => exact ⟨k + 1, by omega, by go_num, HB10.out.trans ((And.right (And.right (by assumption : C12 _ b' (off' + j * 12) q ∧ C12 _ b (off + k * 12) q ∧ Below w10.heap.size w10 _))).mono (by have := HB10.out.size; omega))⟩
          case measure => simp [intOf]; omega
        · obtain ⟨m, hm, e1, e2⟩ := H4.out
          exact absurd ⟨e1, e2⟩ (hno m hm)
      · obtain rfl : k = os.length := by omega
        have HO := Lib.hid (HR.out _ HBn.out)
        go_wp2_with (refine loadI rfl _ rfl rfl HO.out ?_)
        refine (HI2.out _ _ _ HXn.out hc3).mono ?_
        rintro e w10 ⟨a10, c10, rfl, row10, b10⟩
        have HZ10 := Lib.hid row10.rd
        have HX10 := Lib.hid (HXn.out.below b10)
        have HB10 := Lib.hid (HBn.out.trans (b10.mono hzn))
        have hz10 := HB10.out.size
        clear row10 b10 HO HXn
        go_wp2_with fail
        refine (HVL.out _ _ _ HX10.out).mono ?_
        rintro e w11 ⟨rfl, b11⟩
        have HZ11 := Lib.hid (HZ10.out.below b11)
        have HX11 := Lib.hid (HX10.out.below b11)
        have HB11 := Lib.hid (HB10.out.trans (b11.mono hz10))
        have hz11 := HB11.out.size
        obtain ⟨q0, q1, q2, q3, q4, q5, q6, q7, q8, q9, q10, q11⟩ := c12 (HR.out _ HB11.out)
        clear b11 q2 q3 q4 q5 q6 q7 q8 q9 q10 q11 HZ10 HX10
        have hll : ((L.length : Int) == ((os.length : Int) + 1)) = true := by rw [HLL.out]; simp
        go_wp2_with fail
        refine (HFL.out _ _ _ _ _ HX11.out).mono ?_
        rintro e w12 ⟨⟨j, rfl, hj, hji, hjj⟩ | ⟨rfl, hno⟩, b12⟩
        · have HZ12 := Lib.hid (HZ11.out.below b12)
          have HX12 := Lib.hid (HX11.out.below b12)
          have HB12 := Lib.hid (HB11.out.trans (b12.mono hz11))
          have hz12 := HB12.out.size
          have hj0 : (0 : Int) ≤ (j : Int) := Int.natCast_nonneg _
          clear b12 q0 q1 hj hji hjj
          go_wp2_with fail
          refine (HEL.out _ _ _ _ _ HZ12.out HX12.out).mono ?_
          rintro e w13 ⟨rfl, b13⟩
          have HB13 := Lib.hid (HB12.out.trans (b13.mono hz12))
          clear b13
          go_wp2
          go_ret
          exact ⟨rfl, HB1.out.trans ((HB2.out.trans (HB13.out.mono h12)).mono hz1)⟩
        · obtain ⟨m, hm, e1, e2⟩ := K6.out
          exact absurd ⟨e1, e2⟩ (hno m hm)

end Go.Proofs.Ytlogpbejfifgdaa.MoI
