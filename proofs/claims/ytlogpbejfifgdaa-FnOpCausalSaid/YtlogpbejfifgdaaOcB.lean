/-
  The walk of the law FnOpCausal: it returns true, whatever the bytes. No condition.
-/
import Derived.Test.YtlogpbejfifgdaaOcA
import Derived.Test.YtlogpbejfifgdaaK5
import Derived.Test.YtlogpbejfifgdaaOpH
import Derived.Outline
namespace Go.Proofs.Ytlogpbejfifgdaa.OcB
open Go.RowKit Go.Proofs.Ytlogpbejfifgdaa.Base Go.Proofs.Ytlogpbejfifgdaa.St Go.Proofs.Ytlogpbejfifgdaa.StB Go.Proofs.Ytlogpbejfifgdaa.OpA Go.Proofs.Ytlogpbejfifgdaa.OpB Go.Proofs.Ytlogpbejfifgdaa.LgA Go.Proofs.Ytlogpbejfifgdaa.LgB Go.Proofs.Ytlogpbejfifgdaa.LgC Go.Proofs.Ytlogpbejfifgdaa.LgF Go.Proofs.Ytlogpbejfifgdaa.LgI Go.Proofs.Ytlogpbejfifgdaa.LgP Go.Proofs.Ytlogpbejfifgdaa.RdA Go.Proofs.Ytlogpbejfifgdaa.RdB Go.Proofs.Ytlogpbejfifgdaa.RdD Go.Proofs.Ytlogpbejfifgdaa.RgC Go.Proofs.Ytlogpbejfifgdaa.OcA
set_option linter.unusedVariables false

theorem newOp (w0 : World) (o : OpV) : (w0.alloc (.cells #[.int .i64 o.i, .int .i64 o.j, .int .i64 o.k, .int .i64 o.ts, .int .i64 o.ta, .int .i64 o.fs, .int .i64 o.fa, .int .i64 o.ns, .int .i64 o.na, .int .i64 o.v, .bool o.en, .string o.tx] 27)).rangeAt w0.heap.size 0 (opL o) :=
  fun j u hu => by have := news w0 o j u hu; rwa [Addr.add_mid] at this

set_option maxRecDepth 100000 in
set_option maxHeartbeats 8000000 in
theorem walk (a0 : Option Addr) (len0 cap0 : Nat) (z0 : List Int) (w : World) (r0 : IsRow .u8 w a0 len0 cap0 z0) :
    Calls Try.prog 12 #[.slice a0 len0 cap0] w fun e w' => e = .returned (.bool true) ∧ Below w.heap.size w w' := by
  obtain ⟨xs, rfl, hx, rx⟩ := bytes_rd r0
  clear r0
  by_cases l0 : (1048576 : Int) < (xs.length : Int)
  · clear rx
    go_enter Try.func12, Try.ntmps12
    go_wp2
    go_ret
    exact ⟨rfl, Below.refl _ _⟩
  have HD := Lib.hid (drawValid a0 cap0 xs w rx hx)
  clear rx hx
  go_enter Try.func12, Try.ntmps12
  go_wp2_with fail
  refine HD.out.mono ?_
  rintro e w1 ⟨⟨o, rfl, ht⟩, b1⟩
  have hts : o.tx.size ≤ maxLen := by unfold maxLen; omega
  have hI := fun W => ivop o W hts
  have hS := fun W => OpH.spec_ValidOp o W hts
  obtain ⟨p, hp⟩ : ∃ p, vop o = p := ⟨_, rfl⟩
  rw [hp] at hI hS
  have HC := Lib.hid (fun (h : p = true) => causal (by rw [hp]; exact h : vop o = true))
  have HN := Lib.hid (newOp w1 o)
  have HB1 := Lib.hid b1
  have hz1 := b1.size
  obtain ⟨i, j, k, ts, ta, fs, fa, ns, na, v, en, tx⟩ := o
  have HI := Lib.hid hI
  have HS := Lib.hid hS
  clear hI hS hp ht hts HD l0 b1
  obtain ⟨w2, hw2⟩ : ∃ w2, w2 = w1.alloc (.cells #[.int .i64 i, .int .i64 j, .int .i64 k, .int .i64 ts, .int .i64 ta, .int .i64 fs, .int .i64 fa, .int .i64 ns, .int .i64 na, .int .i64 v, .bool en, .string tx] 27) := ⟨_, rfl⟩
  have b2 : Below w1.heap.size w1 w2 := by rw [hw2]; exact (Below.refl _ _).alloc (Nat.le_refl _) _
  have hn2 : w1.heap.size < w2.heap.size := by rw [hw2]; simp
  have r2 : w2.rangeAt w1.heap.size 0 (opL ⟨i, j, k, ts, ta, fs, fa, ns, na, v, en, tx⟩) := by rw [hw2]; exact HN.out
  have HR := Lib.hid (fun W (hW : Below w2.heap.size w2 W) => (rangeAt_below r2 hW hn2 : W.rangeAt w1.heap.size 0 (opL ⟨i, j, k, ts, ta, fs, fa, ns, na, v, en, tx⟩)))
  have HB2 := Lib.hid (HB1.out.trans (b2.mono hz1))
  have HW2 := Lib.hid hw2
  have hz2 := HB2.out.size
  clear b2 r2 hw2 HB1
  go_wp2_with (refine loadI rfl _ rfl rfl HN.out ?_)
  rw [← HW2.out]
  refine (HI.out w2).mono ?_
  rintro e w3 ⟨rfl, b3⟩
  have HR3 := Lib.hid (HR.out _ b3)
  have hz3 := b3.size
  have HB3 := Lib.hid b3
  clear b3 HI HN
  have hpp : (p != p) = false := by cases p <;> rfl
  have hpe : (p == p) = true := by cases p <;> rfl
  go_wp2_with (refine loadI rfl _ rfl rfl HR3.out ?_)
  refine (HS.out w3).mono ?_
  rintro e w4 ⟨rfl, b4⟩
  have HB4 := Lib.hid (HB3.out.trans (b4.mono hz3))
  have hz4 := HB4.out.size
  have HR4 := Lib.hid (HR.out _ HB4.out)
  clear b4 HB3 HR3
  cases p
  · go_wp2_with (refine loadI rfl _ rfl rfl HR4.out ?_)
    refine (HS.out w4).mono ?_
    rintro e w5 ⟨rfl, b5⟩
    go_wp2
    go_ret
    exact ⟨rfl, HB2.out.trans ((HB4.out.trans (b5.mono hz4)).mono hz2)⟩
  obtain ⟨c0, c1, c2, c3, c4⟩ := HC.out (by first | rfl | trivial)
  have HVS := Lib.hid c0
  have H1 := Lib.hid c1
  have H2 := Lib.hid c2
  have H3 := Lib.hid c3
  have H4 := Lib.hid c4
  clear c0 c1 c2 c3 c4 HC HS hpp hpe
  obtain ⟨w5, hw5⟩ : ∃ w5, w5 = w4.alloc (.cells #[.int .i64 0, .int .i64 0] 25) := ⟨_, rfl⟩
  have b5 : Below w4.heap.size w4 w5 := by rw [hw5]; exact (Below.refl _ _).alloc (Nat.le_refl _) _
  have hn5 : w4.heap.size < w5.heap.size := by rw [hw5]; simp
  have HB5 := Lib.hid (HB4.out.trans (b5.mono hz4))
  have hz5 := HB5.out.size
  have y0 : w5.cell? ⟨w4.heap.size, 0, none⟩ = some (.int .i64 0) := by rw [hw5]; simp [go_sem]
  have y1 : w5.cell? ⟨w4.heap.size, 1, none⟩ = some (.int .i64 0) := by rw [hw5]; simp [go_sem]
  have HY := Lib.hid (fun W (hW : Below w5.heap.size w5 W) => ((⟨(hW.cell (p := ⟨w4.heap.size, 0, none⟩) hn5).trans y0, (hW.cell (p := ⟨w4.heap.size, 1, none⟩) hn5).trans y1⟩ : W.cell? ⟨w4.heap.size, 0, none⟩ = some (.int .i64 0) ∧ W.cell? ⟨w4.heap.size, 1, none⟩ = some (.int .i64 0))))
  have HC5 := Lib.hid (fun W (hW : Below w5.heap.size w5 W) => c12 (HR.out W (HB5.out.trans (hW.mono hz5))))
  have HW5 := Lib.hid hw5
  have hfin := HB2.out.trans (HB5.out.mono hz2)
  have HF := Lib.hid hfin
  have hzf := hfin.size
  have q := HC5.out w5 (Below.refl _ _)
  simp only [C12] at q
  rw [hw5] at q
  obtain ⟨q0, q1, q2, q3, q4, q5, q6, q7, q8, q9, q10, q11⟩ := q
  clear b5 hw5 y0 y1 hfin HB2 HB4 HB5 HR HR4
  go_wp2_with fail
  clear q0 q1 q2 q3 q4 q5 q6 q7 q8 q9 q10 q11
  rw [← HW5.out]
  have hvs := impl_ValidStamp i j w5
  rw [HVS.out] at hvs
  refine hvs.mono ?_
  rintro e w6 ⟨rfl, b6⟩
  have HB6 := Lib.hid b6
  have hz6 := b6.size
  clear b6 hvs
  have h1 := H1.out
  have h2 := H2.out
  have h3 := H3.out
  have h4 := H4.out
  clear H1 H2 H3 H4 HVS
  have h5 : tx = ⟨#[]⟩ ∨ (tx ≠ ⟨#[]⟩ ∧ k = 8) ∨ (tx ≠ ⟨#[]⟩ ∧ k = 9) := by by_cases e : tx = ⟨#[]⟩ <;> simp_all
  clear h4
  rcases h5 with rfl | ⟨hne, rfl⟩ | ⟨hne, rfl⟩
  · skip
    rcases h1 with ⟨rfl, rfl⟩ | h1
    · skip
      rcases h2 with ⟨rfl, rfl⟩ | h2
      · skip
        rcases h3 with ⟨rfl, rfl⟩ | h3
        · skip
          obtain ⟨y0, y1⟩ := HY.out w6 HB6.out
          obtain ⟨q0, q1, q2, q3, q4, q5, q6, q7, q8, q9, q10, q11⟩ := HC5.out w6 HB6.out
          go_wp2
          go_ret
          exact ⟨rfl, HF.out.trans (HB6.out.mono hzf)⟩
        · skip
          have g_ns : (ns == 0) = false := by simp [h3.1]
          have S_ns := Lib.hid (fun W => (by have := impl_StampLess ns na i j W; rwa [h3.2] at this : Calls Try.prog 24 #[.agg #[.int .i64 ns, .int .i64 na], .agg #[.int .i64 i, .int .i64 j]] W fun e w' => e = .returned (.bool true) ∧ Below W.heap.size W w'))
          clear h3
          obtain ⟨y0, y1⟩ := HY.out w6 HB6.out
          obtain ⟨q0, q1, q2, q3, q4, q5, q6, q7, q8, q9, q10, q11⟩ := HC5.out w6 HB6.out
          go_wp2_with fail
          refine (S_ns.out _).mono ?_
          rintro e w7 ⟨rfl, b7⟩
          have HB7 := Lib.hid (HB6.out.trans (b7.mono hz6))
          have hz7 := HB7.out.size
          clear b7 y0 y1 q0 q1 q2 q3 q4 q5 q6 q7 q8 q9 q10 q11
          obtain ⟨y0, y1⟩ := HY.out w7 HB7.out
          obtain ⟨q0, q1, q2, q3, q4, q5, q6, q7, q8, q9, q10, q11⟩ := HC5.out w7 HB7.out
          go_wp2
          go_ret
          exact ⟨rfl, HF.out.trans (HB7.out.mono hzf)⟩
      · skip
        rcases h3 with ⟨rfl, rfl⟩ | h3
        · skip
          have g_fs : (fs == 0) = false := by simp [h2.1]
          have S_fs := Lib.hid (fun W => (by have := impl_StampLess fs fa i j W; rwa [h2.2] at this : Calls Try.prog 24 #[.agg #[.int .i64 fs, .int .i64 fa], .agg #[.int .i64 i, .int .i64 j]] W fun e w' => e = .returned (.bool true) ∧ Below W.heap.size W w'))
          clear h2
          obtain ⟨y0, y1⟩ := HY.out w6 HB6.out
          obtain ⟨q0, q1, q2, q3, q4, q5, q6, q7, q8, q9, q10, q11⟩ := HC5.out w6 HB6.out
          go_wp2_with fail
          refine (S_fs.out _).mono ?_
          rintro e w7 ⟨rfl, b7⟩
          have HB7 := Lib.hid (HB6.out.trans (b7.mono hz6))
          have hz7 := HB7.out.size
          clear b7 y0 y1 q0 q1 q2 q3 q4 q5 q6 q7 q8 q9 q10 q11
          obtain ⟨y0, y1⟩ := HY.out w7 HB7.out
          obtain ⟨q0, q1, q2, q3, q4, q5, q6, q7, q8, q9, q10, q11⟩ := HC5.out w7 HB7.out
          go_wp2
          go_ret
          exact ⟨rfl, HF.out.trans (HB7.out.mono hzf)⟩
        · skip
          have g_fs : (fs == 0) = false := by simp [h2.1]
          have S_fs := Lib.hid (fun W => (by have := impl_StampLess fs fa i j W; rwa [h2.2] at this : Calls Try.prog 24 #[.agg #[.int .i64 fs, .int .i64 fa], .agg #[.int .i64 i, .int .i64 j]] W fun e w' => e = .returned (.bool true) ∧ Below W.heap.size W w'))
          have g_ns : (ns == 0) = false := by simp [h3.1]
          have S_ns := Lib.hid (fun W => (by have := impl_StampLess ns na i j W; rwa [h3.2] at this : Calls Try.prog 24 #[.agg #[.int .i64 ns, .int .i64 na], .agg #[.int .i64 i, .int .i64 j]] W fun e w' => e = .returned (.bool true) ∧ Below W.heap.size W w'))
          clear h2 h3
          obtain ⟨y0, y1⟩ := HY.out w6 HB6.out
          obtain ⟨q0, q1, q2, q3, q4, q5, q6, q7, q8, q9, q10, q11⟩ := HC5.out w6 HB6.out
          go_wp2_with fail
          refine (S_fs.out _).mono ?_
          rintro e w7 ⟨rfl, b7⟩
          have HB7 := Lib.hid (HB6.out.trans (b7.mono hz6))
          have hz7 := HB7.out.size
          clear b7 y0 y1 q0 q1 q2 q3 q4 q5 q6 q7 q8 q9 q10 q11
          obtain ⟨y0, y1⟩ := HY.out w7 HB7.out
          obtain ⟨q0, q1, q2, q3, q4, q5, q6, q7, q8, q9, q10, q11⟩ := HC5.out w7 HB7.out
          go_wp2_with fail
          refine (S_ns.out _).mono ?_
          rintro e w8 ⟨rfl, b8⟩
          have HB8 := Lib.hid (HB7.out.trans (b8.mono hz7))
          have hz8 := HB8.out.size
          clear b8 y0 y1 q0 q1 q2 q3 q4 q5 q6 q7 q8 q9 q10 q11
          obtain ⟨y0, y1⟩ := HY.out w8 HB8.out
          obtain ⟨q0, q1, q2, q3, q4, q5, q6, q7, q8, q9, q10, q11⟩ := HC5.out w8 HB8.out
          go_wp2
          go_ret
          exact ⟨rfl, HF.out.trans (HB8.out.mono hzf)⟩
    · skip
      rcases h2 with ⟨rfl, rfl⟩ | h2
      · skip
        rcases h3 with ⟨rfl, rfl⟩ | h3
        · skip
          have g_ts : (ts == 0) = false := by simp [h1.1]
          have S_ts := Lib.hid (fun W => (by have := impl_StampLess ts ta i j W; rwa [h1.2] at this : Calls Try.prog 24 #[.agg #[.int .i64 ts, .int .i64 ta], .agg #[.int .i64 i, .int .i64 j]] W fun e w' => e = .returned (.bool true) ∧ Below W.heap.size W w'))
          clear h1
          obtain ⟨y0, y1⟩ := HY.out w6 HB6.out
          obtain ⟨q0, q1, q2, q3, q4, q5, q6, q7, q8, q9, q10, q11⟩ := HC5.out w6 HB6.out
          go_wp2_with fail
          refine (S_ts.out _).mono ?_
          rintro e w7 ⟨rfl, b7⟩
          have HB7 := Lib.hid (HB6.out.trans (b7.mono hz6))
          have hz7 := HB7.out.size
          clear b7 y0 y1 q0 q1 q2 q3 q4 q5 q6 q7 q8 q9 q10 q11
          obtain ⟨y0, y1⟩ := HY.out w7 HB7.out
          obtain ⟨q0, q1, q2, q3, q4, q5, q6, q7, q8, q9, q10, q11⟩ := HC5.out w7 HB7.out
          go_wp2
          go_ret
          exact ⟨rfl, HF.out.trans (HB7.out.mono hzf)⟩
        · skip
          have g_ts : (ts == 0) = false := by simp [h1.1]
          have S_ts := Lib.hid (fun W => (by have := impl_StampLess ts ta i j W; rwa [h1.2] at this : Calls Try.prog 24 #[.agg #[.int .i64 ts, .int .i64 ta], .agg #[.int .i64 i, .int .i64 j]] W fun e w' => e = .returned (.bool true) ∧ Below W.heap.size W w'))
          have g_ns : (ns == 0) = false := by simp [h3.1]
          have S_ns := Lib.hid (fun W => (by have := impl_StampLess ns na i j W; rwa [h3.2] at this : Calls Try.prog 24 #[.agg #[.int .i64 ns, .int .i64 na], .agg #[.int .i64 i, .int .i64 j]] W fun e w' => e = .returned (.bool true) ∧ Below W.heap.size W w'))
          clear h1 h3
          obtain ⟨y0, y1⟩ := HY.out w6 HB6.out
          obtain ⟨q0, q1, q2, q3, q4, q5, q6, q7, q8, q9, q10, q11⟩ := HC5.out w6 HB6.out
          go_wp2_with fail
          refine (S_ts.out _).mono ?_
          rintro e w7 ⟨rfl, b7⟩
          have HB7 := Lib.hid (HB6.out.trans (b7.mono hz6))
          have hz7 := HB7.out.size
          clear b7 y0 y1 q0 q1 q2 q3 q4 q5 q6 q7 q8 q9 q10 q11
          obtain ⟨y0, y1⟩ := HY.out w7 HB7.out
          obtain ⟨q0, q1, q2, q3, q4, q5, q6, q7, q8, q9, q10, q11⟩ := HC5.out w7 HB7.out
          go_wp2_with fail
          refine (S_ns.out _).mono ?_
          rintro e w8 ⟨rfl, b8⟩
          have HB8 := Lib.hid (HB7.out.trans (b8.mono hz7))
          have hz8 := HB8.out.size
          clear b8 y0 y1 q0 q1 q2 q3 q4 q5 q6 q7 q8 q9 q10 q11
          obtain ⟨y0, y1⟩ := HY.out w8 HB8.out
          obtain ⟨q0, q1, q2, q3, q4, q5, q6, q7, q8, q9, q10, q11⟩ := HC5.out w8 HB8.out
          go_wp2
          go_ret
          exact ⟨rfl, HF.out.trans (HB8.out.mono hzf)⟩
      · skip
        rcases h3 with ⟨rfl, rfl⟩ | h3
        · skip
          have g_ts : (ts == 0) = false := by simp [h1.1]
          have S_ts := Lib.hid (fun W => (by have := impl_StampLess ts ta i j W; rwa [h1.2] at this : Calls Try.prog 24 #[.agg #[.int .i64 ts, .int .i64 ta], .agg #[.int .i64 i, .int .i64 j]] W fun e w' => e = .returned (.bool true) ∧ Below W.heap.size W w'))
          have g_fs : (fs == 0) = false := by simp [h2.1]
          have S_fs := Lib.hid (fun W => (by have := impl_StampLess fs fa i j W; rwa [h2.2] at this : Calls Try.prog 24 #[.agg #[.int .i64 fs, .int .i64 fa], .agg #[.int .i64 i, .int .i64 j]] W fun e w' => e = .returned (.bool true) ∧ Below W.heap.size W w'))
          clear h1 h2
          obtain ⟨y0, y1⟩ := HY.out w6 HB6.out
          obtain ⟨q0, q1, q2, q3, q4, q5, q6, q7, q8, q9, q10, q11⟩ := HC5.out w6 HB6.out
          go_wp2_with fail
          refine (S_ts.out _).mono ?_
          rintro e w7 ⟨rfl, b7⟩
          have HB7 := Lib.hid (HB6.out.trans (b7.mono hz6))
          have hz7 := HB7.out.size
          clear b7 y0 y1 q0 q1 q2 q3 q4 q5 q6 q7 q8 q9 q10 q11
          obtain ⟨y0, y1⟩ := HY.out w7 HB7.out
          obtain ⟨q0, q1, q2, q3, q4, q5, q6, q7, q8, q9, q10, q11⟩ := HC5.out w7 HB7.out
          go_wp2_with fail
          refine (S_fs.out _).mono ?_
          rintro e w8 ⟨rfl, b8⟩
          have HB8 := Lib.hid (HB7.out.trans (b8.mono hz7))
          have hz8 := HB8.out.size
          clear b8 y0 y1 q0 q1 q2 q3 q4 q5 q6 q7 q8 q9 q10 q11
          obtain ⟨y0, y1⟩ := HY.out w8 HB8.out
          obtain ⟨q0, q1, q2, q3, q4, q5, q6, q7, q8, q9, q10, q11⟩ := HC5.out w8 HB8.out
          go_wp2
          go_ret
          exact ⟨rfl, HF.out.trans (HB8.out.mono hzf)⟩
        · skip
          have g_ts : (ts == 0) = false := by simp [h1.1]
          have S_ts := Lib.hid (fun W => (by have := impl_StampLess ts ta i j W; rwa [h1.2] at this : Calls Try.prog 24 #[.agg #[.int .i64 ts, .int .i64 ta], .agg #[.int .i64 i, .int .i64 j]] W fun e w' => e = .returned (.bool true) ∧ Below W.heap.size W w'))
          have g_fs : (fs == 0) = false := by simp [h2.1]
          have S_fs := Lib.hid (fun W => (by have := impl_StampLess fs fa i j W; rwa [h2.2] at this : Calls Try.prog 24 #[.agg #[.int .i64 fs, .int .i64 fa], .agg #[.int .i64 i, .int .i64 j]] W fun e w' => e = .returned (.bool true) ∧ Below W.heap.size W w'))
          have g_ns : (ns == 0) = false := by simp [h3.1]
          have S_ns := Lib.hid (fun W => (by have := impl_StampLess ns na i j W; rwa [h3.2] at this : Calls Try.prog 24 #[.agg #[.int .i64 ns, .int .i64 na], .agg #[.int .i64 i, .int .i64 j]] W fun e w' => e = .returned (.bool true) ∧ Below W.heap.size W w'))
          clear h1 h2 h3
          obtain ⟨y0, y1⟩ := HY.out w6 HB6.out
          obtain ⟨q0, q1, q2, q3, q4, q5, q6, q7, q8, q9, q10, q11⟩ := HC5.out w6 HB6.out
          go_wp2_with fail
          refine (S_ts.out _).mono ?_
          rintro e w7 ⟨rfl, b7⟩
          have HB7 := Lib.hid (HB6.out.trans (b7.mono hz6))
          have hz7 := HB7.out.size
          clear b7 y0 y1 q0 q1 q2 q3 q4 q5 q6 q7 q8 q9 q10 q11
          obtain ⟨y0, y1⟩ := HY.out w7 HB7.out
          obtain ⟨q0, q1, q2, q3, q4, q5, q6, q7, q8, q9, q10, q11⟩ := HC5.out w7 HB7.out
          go_wp2_with fail
          refine (S_fs.out _).mono ?_
          rintro e w8 ⟨rfl, b8⟩
          have HB8 := Lib.hid (HB7.out.trans (b8.mono hz7))
          have hz8 := HB8.out.size
          clear b8 y0 y1 q0 q1 q2 q3 q4 q5 q6 q7 q8 q9 q10 q11
          obtain ⟨y0, y1⟩ := HY.out w8 HB8.out
          obtain ⟨q0, q1, q2, q3, q4, q5, q6, q7, q8, q9, q10, q11⟩ := HC5.out w8 HB8.out
          go_wp2_with fail
          refine (S_ns.out _).mono ?_
          rintro e w9 ⟨rfl, b9⟩
          have HB9 := Lib.hid (HB8.out.trans (b9.mono hz8))
          have hz9 := HB9.out.size
          clear b9 y0 y1 q0 q1 q2 q3 q4 q5 q6 q7 q8 q9 q10 q11
          obtain ⟨y0, y1⟩ := HY.out w9 HB9.out
          obtain ⟨q0, q1, q2, q3, q4, q5, q6, q7, q8, q9, q10, q11⟩ := HC5.out w9 HB9.out
          go_wp2
          go_ret
          exact ⟨rfl, HF.out.trans (HB9.out.mono hzf)⟩
  · skip
    clear hne
    rcases h1 with ⟨rfl, rfl⟩ | h1
    · skip
      rcases h2 with ⟨rfl, rfl⟩ | h2
      · skip
        rcases h3 with ⟨rfl, rfl⟩ | h3
        · skip
          obtain ⟨y0, y1⟩ := HY.out w6 HB6.out
          obtain ⟨q0, q1, q2, q3, q4, q5, q6, q7, q8, q9, q10, q11⟩ := HC5.out w6 HB6.out
          go_wp2
          all_goals (go_ret; exact ⟨rfl, HF.out.trans (HB6.out.mono hzf)⟩)
        · skip
          have g_ns : (ns == 0) = false := by simp [h3.1]
          have S_ns := Lib.hid (fun W => (by have := impl_StampLess ns na i j W; rwa [h3.2] at this : Calls Try.prog 24 #[.agg #[.int .i64 ns, .int .i64 na], .agg #[.int .i64 i, .int .i64 j]] W fun e w' => e = .returned (.bool true) ∧ Below W.heap.size W w'))
          clear h3
          obtain ⟨y0, y1⟩ := HY.out w6 HB6.out
          obtain ⟨q0, q1, q2, q3, q4, q5, q6, q7, q8, q9, q10, q11⟩ := HC5.out w6 HB6.out
          go_wp2_with fail
          refine (S_ns.out _).mono ?_
          rintro e w7 ⟨rfl, b7⟩
          have HB7 := Lib.hid (HB6.out.trans (b7.mono hz6))
          have hz7 := HB7.out.size
          clear b7 y0 y1 q0 q1 q2 q3 q4 q5 q6 q7 q8 q9 q10 q11
          obtain ⟨y0, y1⟩ := HY.out w7 HB7.out
          obtain ⟨q0, q1, q2, q3, q4, q5, q6, q7, q8, q9, q10, q11⟩ := HC5.out w7 HB7.out
          go_wp2
          all_goals (go_ret; exact ⟨rfl, HF.out.trans (HB7.out.mono hzf)⟩)
      · skip
        rcases h3 with ⟨rfl, rfl⟩ | h3
        · skip
          have g_fs : (fs == 0) = false := by simp [h2.1]
          have S_fs := Lib.hid (fun W => (by have := impl_StampLess fs fa i j W; rwa [h2.2] at this : Calls Try.prog 24 #[.agg #[.int .i64 fs, .int .i64 fa], .agg #[.int .i64 i, .int .i64 j]] W fun e w' => e = .returned (.bool true) ∧ Below W.heap.size W w'))
          clear h2
          obtain ⟨y0, y1⟩ := HY.out w6 HB6.out
          obtain ⟨q0, q1, q2, q3, q4, q5, q6, q7, q8, q9, q10, q11⟩ := HC5.out w6 HB6.out
          go_wp2_with fail
          refine (S_fs.out _).mono ?_
          rintro e w7 ⟨rfl, b7⟩
          have HB7 := Lib.hid (HB6.out.trans (b7.mono hz6))
          have hz7 := HB7.out.size
          clear b7 y0 y1 q0 q1 q2 q3 q4 q5 q6 q7 q8 q9 q10 q11
          obtain ⟨y0, y1⟩ := HY.out w7 HB7.out
          obtain ⟨q0, q1, q2, q3, q4, q5, q6, q7, q8, q9, q10, q11⟩ := HC5.out w7 HB7.out
          go_wp2
          all_goals (go_ret; exact ⟨rfl, HF.out.trans (HB7.out.mono hzf)⟩)
        · skip
          have g_fs : (fs == 0) = false := by simp [h2.1]
          have S_fs := Lib.hid (fun W => (by have := impl_StampLess fs fa i j W; rwa [h2.2] at this : Calls Try.prog 24 #[.agg #[.int .i64 fs, .int .i64 fa], .agg #[.int .i64 i, .int .i64 j]] W fun e w' => e = .returned (.bool true) ∧ Below W.heap.size W w'))
          have g_ns : (ns == 0) = false := by simp [h3.1]
          have S_ns := Lib.hid (fun W => (by have := impl_StampLess ns na i j W; rwa [h3.2] at this : Calls Try.prog 24 #[.agg #[.int .i64 ns, .int .i64 na], .agg #[.int .i64 i, .int .i64 j]] W fun e w' => e = .returned (.bool true) ∧ Below W.heap.size W w'))
          clear h2 h3
          obtain ⟨y0, y1⟩ := HY.out w6 HB6.out
          obtain ⟨q0, q1, q2, q3, q4, q5, q6, q7, q8, q9, q10, q11⟩ := HC5.out w6 HB6.out
          go_wp2_with fail
          refine (S_fs.out _).mono ?_
          rintro e w7 ⟨rfl, b7⟩
          have HB7 := Lib.hid (HB6.out.trans (b7.mono hz6))
          have hz7 := HB7.out.size
          clear b7 y0 y1 q0 q1 q2 q3 q4 q5 q6 q7 q8 q9 q10 q11
          obtain ⟨y0, y1⟩ := HY.out w7 HB7.out
          obtain ⟨q0, q1, q2, q3, q4, q5, q6, q7, q8, q9, q10, q11⟩ := HC5.out w7 HB7.out
          go_wp2_with fail
          refine (S_ns.out _).mono ?_
          rintro e w8 ⟨rfl, b8⟩
          have HB8 := Lib.hid (HB7.out.trans (b8.mono hz7))
          have hz8 := HB8.out.size
          clear b8 y0 y1 q0 q1 q2 q3 q4 q5 q6 q7 q8 q9 q10 q11
          obtain ⟨y0, y1⟩ := HY.out w8 HB8.out
          obtain ⟨q0, q1, q2, q3, q4, q5, q6, q7, q8, q9, q10, q11⟩ := HC5.out w8 HB8.out
          go_wp2
          all_goals (go_ret; exact ⟨rfl, HF.out.trans (HB8.out.mono hzf)⟩)
    · skip
      rcases h2 with ⟨rfl, rfl⟩ | h2
      · skip
        rcases h3 with ⟨rfl, rfl⟩ | h3
        · skip
          have g_ts : (ts == 0) = false := by simp [h1.1]
          have S_ts := Lib.hid (fun W => (by have := impl_StampLess ts ta i j W; rwa [h1.2] at this : Calls Try.prog 24 #[.agg #[.int .i64 ts, .int .i64 ta], .agg #[.int .i64 i, .int .i64 j]] W fun e w' => e = .returned (.bool true) ∧ Below W.heap.size W w'))
          clear h1
          obtain ⟨y0, y1⟩ := HY.out w6 HB6.out
          obtain ⟨q0, q1, q2, q3, q4, q5, q6, q7, q8, q9, q10, q11⟩ := HC5.out w6 HB6.out
          go_wp2_with fail
          refine (S_ts.out _).mono ?_
          rintro e w7 ⟨rfl, b7⟩
          have HB7 := Lib.hid (HB6.out.trans (b7.mono hz6))
          have hz7 := HB7.out.size
          clear b7 y0 y1 q0 q1 q2 q3 q4 q5 q6 q7 q8 q9 q10 q11
          obtain ⟨y0, y1⟩ := HY.out w7 HB7.out
          obtain ⟨q0, q1, q2, q3, q4, q5, q6, q7, q8, q9, q10, q11⟩ := HC5.out w7 HB7.out
          go_wp2
          all_goals (go_ret; exact ⟨rfl, HF.out.trans (HB7.out.mono hzf)⟩)
        · skip
          have g_ts : (ts == 0) = false := by simp [h1.1]
          have S_ts := Lib.hid (fun W => (by have := impl_StampLess ts ta i j W; rwa [h1.2] at this : Calls Try.prog 24 #[.agg #[.int .i64 ts, .int .i64 ta], .agg #[.int .i64 i, .int .i64 j]] W fun e w' => e = .returned (.bool true) ∧ Below W.heap.size W w'))
          have g_ns : (ns == 0) = false := by simp [h3.1]
          have S_ns := Lib.hid (fun W => (by have := impl_StampLess ns na i j W; rwa [h3.2] at this : Calls Try.prog 24 #[.agg #[.int .i64 ns, .int .i64 na], .agg #[.int .i64 i, .int .i64 j]] W fun e w' => e = .returned (.bool true) ∧ Below W.heap.size W w'))
          clear h1 h3
          obtain ⟨y0, y1⟩ := HY.out w6 HB6.out
          obtain ⟨q0, q1, q2, q3, q4, q5, q6, q7, q8, q9, q10, q11⟩ := HC5.out w6 HB6.out
          go_wp2_with fail
          refine (S_ts.out _).mono ?_
          rintro e w7 ⟨rfl, b7⟩
          have HB7 := Lib.hid (HB6.out.trans (b7.mono hz6))
          have hz7 := HB7.out.size
          clear b7 y0 y1 q0 q1 q2 q3 q4 q5 q6 q7 q8 q9 q10 q11
          obtain ⟨y0, y1⟩ := HY.out w7 HB7.out
          obtain ⟨q0, q1, q2, q3, q4, q5, q6, q7, q8, q9, q10, q11⟩ := HC5.out w7 HB7.out
          go_wp2_with fail
          refine (S_ns.out _).mono ?_
          rintro e w8 ⟨rfl, b8⟩
          have HB8 := Lib.hid (HB7.out.trans (b8.mono hz7))
          have hz8 := HB8.out.size
          clear b8 y0 y1 q0 q1 q2 q3 q4 q5 q6 q7 q8 q9 q10 q11
          obtain ⟨y0, y1⟩ := HY.out w8 HB8.out
          obtain ⟨q0, q1, q2, q3, q4, q5, q6, q7, q8, q9, q10, q11⟩ := HC5.out w8 HB8.out
          go_wp2
          all_goals (go_ret; exact ⟨rfl, HF.out.trans (HB8.out.mono hzf)⟩)
      · skip
        rcases h3 with ⟨rfl, rfl⟩ | h3
        · skip
          have g_ts : (ts == 0) = false := by simp [h1.1]
          have S_ts := Lib.hid (fun W => (by have := impl_StampLess ts ta i j W; rwa [h1.2] at this : Calls Try.prog 24 #[.agg #[.int .i64 ts, .int .i64 ta], .agg #[.int .i64 i, .int .i64 j]] W fun e w' => e = .returned (.bool true) ∧ Below W.heap.size W w'))
          have g_fs : (fs == 0) = false := by simp [h2.1]
          have S_fs := Lib.hid (fun W => (by have := impl_StampLess fs fa i j W; rwa [h2.2] at this : Calls Try.prog 24 #[.agg #[.int .i64 fs, .int .i64 fa], .agg #[.int .i64 i, .int .i64 j]] W fun e w' => e = .returned (.bool true) ∧ Below W.heap.size W w'))
          clear h1 h2
          obtain ⟨y0, y1⟩ := HY.out w6 HB6.out
          obtain ⟨q0, q1, q2, q3, q4, q5, q6, q7, q8, q9, q10, q11⟩ := HC5.out w6 HB6.out
          go_wp2_with fail
          refine (S_ts.out _).mono ?_
          rintro e w7 ⟨rfl, b7⟩
          have HB7 := Lib.hid (HB6.out.trans (b7.mono hz6))
          have hz7 := HB7.out.size
          clear b7 y0 y1 q0 q1 q2 q3 q4 q5 q6 q7 q8 q9 q10 q11
          obtain ⟨y0, y1⟩ := HY.out w7 HB7.out
          obtain ⟨q0, q1, q2, q3, q4, q5, q6, q7, q8, q9, q10, q11⟩ := HC5.out w7 HB7.out
          go_wp2_with fail
          refine (S_fs.out _).mono ?_
          rintro e w8 ⟨rfl, b8⟩
          have HB8 := Lib.hid (HB7.out.trans (b8.mono hz7))
          have hz8 := HB8.out.size
          clear b8 y0 y1 q0 q1 q2 q3 q4 q5 q6 q7 q8 q9 q10 q11
          obtain ⟨y0, y1⟩ := HY.out w8 HB8.out
          obtain ⟨q0, q1, q2, q3, q4, q5, q6, q7, q8, q9, q10, q11⟩ := HC5.out w8 HB8.out
          go_wp2
          all_goals (go_ret; exact ⟨rfl, HF.out.trans (HB8.out.mono hzf)⟩)
        · skip
          have g_ts : (ts == 0) = false := by simp [h1.1]
          have S_ts := Lib.hid (fun W => (by have := impl_StampLess ts ta i j W; rwa [h1.2] at this : Calls Try.prog 24 #[.agg #[.int .i64 ts, .int .i64 ta], .agg #[.int .i64 i, .int .i64 j]] W fun e w' => e = .returned (.bool true) ∧ Below W.heap.size W w'))
          have g_fs : (fs == 0) = false := by simp [h2.1]
          have S_fs := Lib.hid (fun W => (by have := impl_StampLess fs fa i j W; rwa [h2.2] at this : Calls Try.prog 24 #[.agg #[.int .i64 fs, .int .i64 fa], .agg #[.int .i64 i, .int .i64 j]] W fun e w' => e = .returned (.bool true) ∧ Below W.heap.size W w'))
          have g_ns : (ns == 0) = false := by simp [h3.1]
          have S_ns := Lib.hid (fun W => (by have := impl_StampLess ns na i j W; rwa [h3.2] at this : Calls Try.prog 24 #[.agg #[.int .i64 ns, .int .i64 na], .agg #[.int .i64 i, .int .i64 j]] W fun e w' => e = .returned (.bool true) ∧ Below W.heap.size W w'))
          clear h1 h2 h3
          obtain ⟨y0, y1⟩ := HY.out w6 HB6.out
          obtain ⟨q0, q1, q2, q3, q4, q5, q6, q7, q8, q9, q10, q11⟩ := HC5.out w6 HB6.out
          go_wp2_with fail
          refine (S_ts.out _).mono ?_
          rintro e w7 ⟨rfl, b7⟩
          have HB7 := Lib.hid (HB6.out.trans (b7.mono hz6))
          have hz7 := HB7.out.size
          clear b7 y0 y1 q0 q1 q2 q3 q4 q5 q6 q7 q8 q9 q10 q11
          obtain ⟨y0, y1⟩ := HY.out w7 HB7.out
          obtain ⟨q0, q1, q2, q3, q4, q5, q6, q7, q8, q9, q10, q11⟩ := HC5.out w7 HB7.out
          go_wp2_with fail
          refine (S_fs.out _).mono ?_
          rintro e w8 ⟨rfl, b8⟩
          have HB8 := Lib.hid (HB7.out.trans (b8.mono hz7))
          have hz8 := HB8.out.size
          clear b8 y0 y1 q0 q1 q2 q3 q4 q5 q6 q7 q8 q9 q10 q11
          obtain ⟨y0, y1⟩ := HY.out w8 HB8.out
          obtain ⟨q0, q1, q2, q3, q4, q5, q6, q7, q8, q9, q10, q11⟩ := HC5.out w8 HB8.out
          go_wp2_with fail
          refine (S_ns.out _).mono ?_
          rintro e w9 ⟨rfl, b9⟩
          have HB9 := Lib.hid (HB8.out.trans (b9.mono hz8))
          have hz9 := HB9.out.size
          clear b9 y0 y1 q0 q1 q2 q3 q4 q5 q6 q7 q8 q9 q10 q11
          obtain ⟨y0, y1⟩ := HY.out w9 HB9.out
          obtain ⟨q0, q1, q2, q3, q4, q5, q6, q7, q8, q9, q10, q11⟩ := HC5.out w9 HB9.out
          go_wp2
          all_goals (go_ret; exact ⟨rfl, HF.out.trans (HB9.out.mono hzf)⟩)
  · skip
    clear hne
    rcases h1 with ⟨rfl, rfl⟩ | h1
    · skip
      rcases h2 with ⟨rfl, rfl⟩ | h2
      · skip
        rcases h3 with ⟨rfl, rfl⟩ | h3
        · skip
          obtain ⟨y0, y1⟩ := HY.out w6 HB6.out
          obtain ⟨q0, q1, q2, q3, q4, q5, q6, q7, q8, q9, q10, q11⟩ := HC5.out w6 HB6.out
          go_wp2
          all_goals (go_ret; exact ⟨rfl, HF.out.trans (HB6.out.mono hzf)⟩)
        · skip
          have g_ns : (ns == 0) = false := by simp [h3.1]
          have S_ns := Lib.hid (fun W => (by have := impl_StampLess ns na i j W; rwa [h3.2] at this : Calls Try.prog 24 #[.agg #[.int .i64 ns, .int .i64 na], .agg #[.int .i64 i, .int .i64 j]] W fun e w' => e = .returned (.bool true) ∧ Below W.heap.size W w'))
          clear h3
          obtain ⟨y0, y1⟩ := HY.out w6 HB6.out
          obtain ⟨q0, q1, q2, q3, q4, q5, q6, q7, q8, q9, q10, q11⟩ := HC5.out w6 HB6.out
          go_wp2_with fail
          refine (S_ns.out _).mono ?_
          rintro e w7 ⟨rfl, b7⟩
          have HB7 := Lib.hid (HB6.out.trans (b7.mono hz6))
          have hz7 := HB7.out.size
          clear b7 y0 y1 q0 q1 q2 q3 q4 q5 q6 q7 q8 q9 q10 q11
          obtain ⟨y0, y1⟩ := HY.out w7 HB7.out
          obtain ⟨q0, q1, q2, q3, q4, q5, q6, q7, q8, q9, q10, q11⟩ := HC5.out w7 HB7.out
          go_wp2
          all_goals (go_ret; exact ⟨rfl, HF.out.trans (HB7.out.mono hzf)⟩)
      · skip
        rcases h3 with ⟨rfl, rfl⟩ | h3
        · skip
          have g_fs : (fs == 0) = false := by simp [h2.1]
          have S_fs := Lib.hid (fun W => (by have := impl_StampLess fs fa i j W; rwa [h2.2] at this : Calls Try.prog 24 #[.agg #[.int .i64 fs, .int .i64 fa], .agg #[.int .i64 i, .int .i64 j]] W fun e w' => e = .returned (.bool true) ∧ Below W.heap.size W w'))
          clear h2
          obtain ⟨y0, y1⟩ := HY.out w6 HB6.out
          obtain ⟨q0, q1, q2, q3, q4, q5, q6, q7, q8, q9, q10, q11⟩ := HC5.out w6 HB6.out
          go_wp2_with fail
          refine (S_fs.out _).mono ?_
          rintro e w7 ⟨rfl, b7⟩
          have HB7 := Lib.hid (HB6.out.trans (b7.mono hz6))
          have hz7 := HB7.out.size
          clear b7 y0 y1 q0 q1 q2 q3 q4 q5 q6 q7 q8 q9 q10 q11
          obtain ⟨y0, y1⟩ := HY.out w7 HB7.out
          obtain ⟨q0, q1, q2, q3, q4, q5, q6, q7, q8, q9, q10, q11⟩ := HC5.out w7 HB7.out
          go_wp2
          all_goals (go_ret; exact ⟨rfl, HF.out.trans (HB7.out.mono hzf)⟩)
        · skip
          have g_fs : (fs == 0) = false := by simp [h2.1]
          have S_fs := Lib.hid (fun W => (by have := impl_StampLess fs fa i j W; rwa [h2.2] at this : Calls Try.prog 24 #[.agg #[.int .i64 fs, .int .i64 fa], .agg #[.int .i64 i, .int .i64 j]] W fun e w' => e = .returned (.bool true) ∧ Below W.heap.size W w'))
          have g_ns : (ns == 0) = false := by simp [h3.1]
          have S_ns := Lib.hid (fun W => (by have := impl_StampLess ns na i j W; rwa [h3.2] at this : Calls Try.prog 24 #[.agg #[.int .i64 ns, .int .i64 na], .agg #[.int .i64 i, .int .i64 j]] W fun e w' => e = .returned (.bool true) ∧ Below W.heap.size W w'))
          clear h2 h3
          obtain ⟨y0, y1⟩ := HY.out w6 HB6.out
          obtain ⟨q0, q1, q2, q3, q4, q5, q6, q7, q8, q9, q10, q11⟩ := HC5.out w6 HB6.out
          go_wp2_with fail
          refine (S_fs.out _).mono ?_
          rintro e w7 ⟨rfl, b7⟩
          have HB7 := Lib.hid (HB6.out.trans (b7.mono hz6))
          have hz7 := HB7.out.size
          clear b7 y0 y1 q0 q1 q2 q3 q4 q5 q6 q7 q8 q9 q10 q11
          obtain ⟨y0, y1⟩ := HY.out w7 HB7.out
          obtain ⟨q0, q1, q2, q3, q4, q5, q6, q7, q8, q9, q10, q11⟩ := HC5.out w7 HB7.out
          go_wp2_with fail
          refine (S_ns.out _).mono ?_
          rintro e w8 ⟨rfl, b8⟩
          have HB8 := Lib.hid (HB7.out.trans (b8.mono hz7))
          have hz8 := HB8.out.size
          clear b8 y0 y1 q0 q1 q2 q3 q4 q5 q6 q7 q8 q9 q10 q11
          obtain ⟨y0, y1⟩ := HY.out w8 HB8.out
          obtain ⟨q0, q1, q2, q3, q4, q5, q6, q7, q8, q9, q10, q11⟩ := HC5.out w8 HB8.out
          go_wp2
          all_goals (go_ret; exact ⟨rfl, HF.out.trans (HB8.out.mono hzf)⟩)
    · skip
      rcases h2 with ⟨rfl, rfl⟩ | h2
      · skip
        rcases h3 with ⟨rfl, rfl⟩ | h3
        · skip
          have g_ts : (ts == 0) = false := by simp [h1.1]
          have S_ts := Lib.hid (fun W => (by have := impl_StampLess ts ta i j W; rwa [h1.2] at this : Calls Try.prog 24 #[.agg #[.int .i64 ts, .int .i64 ta], .agg #[.int .i64 i, .int .i64 j]] W fun e w' => e = .returned (.bool true) ∧ Below W.heap.size W w'))
          clear h1
          obtain ⟨y0, y1⟩ := HY.out w6 HB6.out
          obtain ⟨q0, q1, q2, q3, q4, q5, q6, q7, q8, q9, q10, q11⟩ := HC5.out w6 HB6.out
          go_wp2_with fail
          refine (S_ts.out _).mono ?_
          rintro e w7 ⟨rfl, b7⟩
          have HB7 := Lib.hid (HB6.out.trans (b7.mono hz6))
          have hz7 := HB7.out.size
          clear b7 y0 y1 q0 q1 q2 q3 q4 q5 q6 q7 q8 q9 q10 q11
          obtain ⟨y0, y1⟩ := HY.out w7 HB7.out
          obtain ⟨q0, q1, q2, q3, q4, q5, q6, q7, q8, q9, q10, q11⟩ := HC5.out w7 HB7.out
          go_wp2
          all_goals (go_ret; exact ⟨rfl, HF.out.trans (HB7.out.mono hzf)⟩)
        · skip
          have g_ts : (ts == 0) = false := by simp [h1.1]
          have S_ts := Lib.hid (fun W => (by have := impl_StampLess ts ta i j W; rwa [h1.2] at this : Calls Try.prog 24 #[.agg #[.int .i64 ts, .int .i64 ta], .agg #[.int .i64 i, .int .i64 j]] W fun e w' => e = .returned (.bool true) ∧ Below W.heap.size W w'))
          have g_ns : (ns == 0) = false := by simp [h3.1]
          have S_ns := Lib.hid (fun W => (by have := impl_StampLess ns na i j W; rwa [h3.2] at this : Calls Try.prog 24 #[.agg #[.int .i64 ns, .int .i64 na], .agg #[.int .i64 i, .int .i64 j]] W fun e w' => e = .returned (.bool true) ∧ Below W.heap.size W w'))
          clear h1 h3
          obtain ⟨y0, y1⟩ := HY.out w6 HB6.out
          obtain ⟨q0, q1, q2, q3, q4, q5, q6, q7, q8, q9, q10, q11⟩ := HC5.out w6 HB6.out
          go_wp2_with fail
          refine (S_ts.out _).mono ?_
          rintro e w7 ⟨rfl, b7⟩
          have HB7 := Lib.hid (HB6.out.trans (b7.mono hz6))
          have hz7 := HB7.out.size
          clear b7 y0 y1 q0 q1 q2 q3 q4 q5 q6 q7 q8 q9 q10 q11
          obtain ⟨y0, y1⟩ := HY.out w7 HB7.out
          obtain ⟨q0, q1, q2, q3, q4, q5, q6, q7, q8, q9, q10, q11⟩ := HC5.out w7 HB7.out
          go_wp2_with fail
          refine (S_ns.out _).mono ?_
          rintro e w8 ⟨rfl, b8⟩
          have HB8 := Lib.hid (HB7.out.trans (b8.mono hz7))
          have hz8 := HB8.out.size
          clear b8 y0 y1 q0 q1 q2 q3 q4 q5 q6 q7 q8 q9 q10 q11
          obtain ⟨y0, y1⟩ := HY.out w8 HB8.out
          obtain ⟨q0, q1, q2, q3, q4, q5, q6, q7, q8, q9, q10, q11⟩ := HC5.out w8 HB8.out
          go_wp2
          all_goals (go_ret; exact ⟨rfl, HF.out.trans (HB8.out.mono hzf)⟩)
      · skip
        rcases h3 with ⟨rfl, rfl⟩ | h3
        · skip
          have g_ts : (ts == 0) = false := by simp [h1.1]
          have S_ts := Lib.hid (fun W => (by have := impl_StampLess ts ta i j W; rwa [h1.2] at this : Calls Try.prog 24 #[.agg #[.int .i64 ts, .int .i64 ta], .agg #[.int .i64 i, .int .i64 j]] W fun e w' => e = .returned (.bool true) ∧ Below W.heap.size W w'))
          have g_fs : (fs == 0) = false := by simp [h2.1]
          have S_fs := Lib.hid (fun W => (by have := impl_StampLess fs fa i j W; rwa [h2.2] at this : Calls Try.prog 24 #[.agg #[.int .i64 fs, .int .i64 fa], .agg #[.int .i64 i, .int .i64 j]] W fun e w' => e = .returned (.bool true) ∧ Below W.heap.size W w'))
          clear h1 h2
          obtain ⟨y0, y1⟩ := HY.out w6 HB6.out
          obtain ⟨q0, q1, q2, q3, q4, q5, q6, q7, q8, q9, q10, q11⟩ := HC5.out w6 HB6.out
          go_wp2_with fail
          refine (S_ts.out _).mono ?_
          rintro e w7 ⟨rfl, b7⟩
          have HB7 := Lib.hid (HB6.out.trans (b7.mono hz6))
          have hz7 := HB7.out.size
          clear b7 y0 y1 q0 q1 q2 q3 q4 q5 q6 q7 q8 q9 q10 q11
          obtain ⟨y0, y1⟩ := HY.out w7 HB7.out
          obtain ⟨q0, q1, q2, q3, q4, q5, q6, q7, q8, q9, q10, q11⟩ := HC5.out w7 HB7.out
          go_wp2_with fail
          refine (S_fs.out _).mono ?_
          rintro e w8 ⟨rfl, b8⟩
          have HB8 := Lib.hid (HB7.out.trans (b8.mono hz7))
          have hz8 := HB8.out.size
          clear b8 y0 y1 q0 q1 q2 q3 q4 q5 q6 q7 q8 q9 q10 q11
          obtain ⟨y0, y1⟩ := HY.out w8 HB8.out
          obtain ⟨q0, q1, q2, q3, q4, q5, q6, q7, q8, q9, q10, q11⟩ := HC5.out w8 HB8.out
          go_wp2
          all_goals (go_ret; exact ⟨rfl, HF.out.trans (HB8.out.mono hzf)⟩)
        · skip
          have g_ts : (ts == 0) = false := by simp [h1.1]
          have S_ts := Lib.hid (fun W => (by have := impl_StampLess ts ta i j W; rwa [h1.2] at this : Calls Try.prog 24 #[.agg #[.int .i64 ts, .int .i64 ta], .agg #[.int .i64 i, .int .i64 j]] W fun e w' => e = .returned (.bool true) ∧ Below W.heap.size W w'))
          have g_fs : (fs == 0) = false := by simp [h2.1]
          have S_fs := Lib.hid (fun W => (by have := impl_StampLess fs fa i j W; rwa [h2.2] at this : Calls Try.prog 24 #[.agg #[.int .i64 fs, .int .i64 fa], .agg #[.int .i64 i, .int .i64 j]] W fun e w' => e = .returned (.bool true) ∧ Below W.heap.size W w'))
          have g_ns : (ns == 0) = false := by simp [h3.1]
          have S_ns := Lib.hid (fun W => (by have := impl_StampLess ns na i j W; rwa [h3.2] at this : Calls Try.prog 24 #[.agg #[.int .i64 ns, .int .i64 na], .agg #[.int .i64 i, .int .i64 j]] W fun e w' => e = .returned (.bool true) ∧ Below W.heap.size W w'))
          clear h1 h2 h3
          obtain ⟨y0, y1⟩ := HY.out w6 HB6.out
          obtain ⟨q0, q1, q2, q3, q4, q5, q6, q7, q8, q9, q10, q11⟩ := HC5.out w6 HB6.out
          go_wp2_with fail
          refine (S_ts.out _).mono ?_
          rintro e w7 ⟨rfl, b7⟩
          have HB7 := Lib.hid (HB6.out.trans (b7.mono hz6))
          have hz7 := HB7.out.size
          clear b7 y0 y1 q0 q1 q2 q3 q4 q5 q6 q7 q8 q9 q10 q11
          obtain ⟨y0, y1⟩ := HY.out w7 HB7.out
          obtain ⟨q0, q1, q2, q3, q4, q5, q6, q7, q8, q9, q10, q11⟩ := HC5.out w7 HB7.out
          go_wp2_with fail
          refine (S_fs.out _).mono ?_
          rintro e w8 ⟨rfl, b8⟩
          have HB8 := Lib.hid (HB7.out.trans (b8.mono hz7))
          have hz8 := HB8.out.size
          clear b8 y0 y1 q0 q1 q2 q3 q4 q5 q6 q7 q8 q9 q10 q11
          obtain ⟨y0, y1⟩ := HY.out w8 HB8.out
          obtain ⟨q0, q1, q2, q3, q4, q5, q6, q7, q8, q9, q10, q11⟩ := HC5.out w8 HB8.out
          go_wp2_with fail
          refine (S_ns.out _).mono ?_
          rintro e w9 ⟨rfl, b9⟩
          have HB9 := Lib.hid (HB8.out.trans (b9.mono hz8))
          have hz9 := HB9.out.size
          clear b9 y0 y1 q0 q1 q2 q3 q4 q5 q6 q7 q8 q9 q10 q11
          obtain ⟨y0, y1⟩ := HY.out w9 HB9.out
          obtain ⟨q0, q1, q2, q3, q4, q5, q6, q7, q8, q9, q10, q11⟩ := HC5.out w9 HB9.out
          go_wp2
          all_goals (go_ret; exact ⟨rfl, HF.out.trans (HB9.out.mono hzf)⟩)

end Go.Proofs.Ytlogpbejfifgdaa.OcB
