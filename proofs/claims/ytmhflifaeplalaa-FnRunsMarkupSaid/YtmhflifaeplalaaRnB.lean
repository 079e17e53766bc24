/-
  The walk of the law FnRunsMarkup: it returns true, whatever the bytes. No condition.
-/
import Derived.Test.YtmhflifaeplalaaRnA
import Derived.Test.YtmhflifaeplalaaRmD
import Derived.WalkSpells
namespace Go.Proofs.Ytmhflifaeplalaa.RnB
open Go.RowKit Go.Proofs.Ytmhflifaeplalaa.Base Go.Proofs.Ytmhflifaeplalaa.GsA Go.Proofs.Ytmhflifaeplalaa.GrB Go.Proofs.Ytmhflifaeplalaa.RtA Go.Proofs.Ytmhflifaeplalaa.BtA Go.Proofs.Ytmhflifaeplalaa.RmM Go.Proofs.Ytmhflifaeplalaa.RmB Go.Proofs.Ytmhflifaeplalaa.RmC Go.Proofs.Ytmhflifaeplalaa.RmD Go.Proofs.Ytmhflifaeplalaa.RnM Go.Proofs.Ytmhflifaeplalaa.RdD Go.Proofs.Ytmhflifaeplalaa.RnA
set_option linter.unusedVariables false

theorem txs_few {m : Nat} {xs : List RunV} (h : Few m xs) : ∀ k, k ≤ xs.length → txs xs k ≤ 8 * k
  | 0, _ => Nat.le_refl _
  | k + 1, hk => by
    rw [show txs xs (k + 1) = txs xs k + (xs.getD k zRun).tx.size from rfl]
    have h1 := txs_few h k (by omega)
    have h2 := (h.2 k (by omega)).1
    omega
theorem tb_ne (x : Tok) : 1 ≤ (tb x).length := by
  cases x with
  | clo t => simp [tb]
  | opn t => simp [tb]
  | chr c =>
    rcases byte3 c with ⟨_, h⟩ | ⟨_, _, h⟩ | ⟨_, _, h⟩ <;> simp [tb, h]
theorem chs_le (T : List Tok) : (chs T).length ≤ (bys T).length ∧ nO T ≤ (bys T).length ∧ nC T ≤ (bys T).length := by
  induction T with
  | nil => exact ⟨Nat.le_refl _, Nat.le_refl _, Nat.le_refl _⟩
  | cons x r ih =>
    have h := tb_ne x
    have h1 : (tc x).length ≤ 1 := by cases x <;> simp [tc]
    have h2 : isO x ≤ 1 := by cases x <;> simp [isO]
    have h3 : isC x ≤ 1 := by cases x <;> simp [isC]
    simp only [chs, bys, nO, nC, List.length_append]
    omega
set_option maxRecDepth 100000 in
set_option maxHeartbeats 8000000 in
theorem walkFnRunsMarkup (a0 : Option Addr) (len0 cap0 : Nat) (z0 : List Int) (w : World) (r0 : IsRow .u8 w a0 len0 cap0 z0) :
    Calls Try.prog 9 #[.slice a0 len0 cap0] w fun e w' => e = .returned (.bool true) ∧ Below w.heap.size w w' := by
  obtain ⟨ys, rfl, hx, rx⟩ := bytes_rd r0
  clear r0
  by_cases l0 : (1048576 : Int) < (ys.length : Int)
  · clear rx
    go_enter Try.func9, Try.ntmps9
    go_wp2
    go_ret
    exact ⟨rfl, Below.refl _ _⟩
  have HD := Lib.hid (drawRunsMarkup a0 cap0 ys w rx hx)
  clear rx hx
  go_enter Try.func9, Try.ntmps9
  go_wp2_with fail
  refine HD.out.mono ?_
  rintro e w1 ⟨⟨v, xs, rfl, hown, hfew⟩, b1⟩
  obtain ⟨A, c, rfl, hrow⟩ := ownedG (E := ERun) hown
  have hl : xs.length ≤ 1048576 := Nat.le_trans hfew.1 (by omega)
  have ht : txs xs xs.length ≤ 1048576 := Nat.le_trans (txs_few hfew _ (Nat.le_refl _)) (by have := hfew.1; omega)
  have hwf : ∀ k, k < xs.length → (Lit.int .i64 (xs.getD k zRun).m).wf = true := fun k hk => by
    have := (hfew.2 k hk).2
    generalize (xs.getD k zRun).m = mm at this ⊢
    simp [Lit.wf, IntKind.min, IntKind.max, IntKind.bits, IntKind.signed]
    omega
  have hz1 := b1.size
  have HI := Lib.hid (fun W (hb : Below w1.heap.size w1 W) => impl_RunsMarkup A c xs W (hrow.rd.below hb) hl ht hwf)
  have HS := Lib.hid (fun W (hb : Below w1.heap.size w1 W) => spec_Markup A c xs W (hrow.rd.below hb) hl ht)
  have HT1 := Lib.hid (fun W (hb : Below w1.heap.size w1 W) => impl_RunsText A c xs W (hrow.rd.below hb) hl ht)
  have HT2 := Lib.hid (fun W (hb : Below w1.heap.size w1 W) => spec_RunsText A c xs W (hrow.rd.below hb) hl ht)
  have hml := markup_len xs hl ht
  obtain ⟨s, hs⟩ : ∃ s : ByteArray, s = ⟨(markup xs).toArray⟩ := ⟨_, rfl⟩
  obtain ⟨T, hT⟩ : ∃ T, T = all xs := ⟨_, rfl⟩
  have hsl : s.data.toList = bys T := by rw [hs, hT, all_bys]
  have hss : s.size ≤ 33554432 := by rw [size_of hsl, hT, all_bys]; exact hml
  obtain ⟨txt, htxt⟩ : ∃ txt, txt = catB xs xs.length := ⟨_, rfl⟩
  have hch : chs T = txt.data.toList := by rw [hT, htxt, all_chs]
  have hbal : nO T = nC T := by rw [hT, all_bal]
  have hts : txt.size ≤ 1048576 := by rw [htxt, catB_size]; exact ht
  rw [← hs] at HI HS
  rw [← htxt] at HT1 HT2
  have HSL := Lib.hid hsl
  have HCH := Lib.hid hch
  have HBAL := Lib.hid hbal
  have HB1 := Lib.hid b1
  clear hs hT hsl htxt hch hbal hml hwf ht hl hrow hown hfew HD b1 l0
  go_wp2_with fail
  refine (HI.out _ (Below.refl _ _)).mono ?_
  rintro e w2 ⟨rfl, b2⟩
  have HB2 := Lib.hid b2
  clear b2
  go_wp2_with fail
  refine (HS.out _ HB2.out).mono ?_
  rintro e w3 ⟨rfl, b3⟩
  have HB3 := Lib.hid (HB2.out.trans (b3.mono HB2.out.size))
  clear b3
  go_wp2_with fail
  refine (HT1.out _ HB3.out).mono ?_
  rintro e w4 ⟨rfl, b4⟩
  have HB4 := Lib.hid (HB3.out.trans (b4.mono HB3.out.size))
  clear b4
  go_wp2_with fail
  refine (HT2.out _ HB4.out).mono ?_
  rintro e w5 ⟨rfl, b5⟩
  have HB5 := Lib.hid (HB4.out.trans (b5.mono HB4.out.size))
  clear b5 HB2 HB3 HB4 HI HS HT2
  go_wp2
  go_loop [5, 6, 7, 8] (fun v b e i => ∃ (j : Nat) (r : ByteArray), j ≤ T.length ∧ i = .int .i64 ((bys (T.take j)).length : Nat) ∧ v = .string r ∧ Hid (r.data.toList = chs (T.take j)) ∧ b = .int .i64 (nO (T.take j) : Nat) ∧ e = .int .i64 (nC (T.take j) : Nat)) (fun _ _ _ i => s.size - (intOf i).toNat)
  case atStart => exact ⟨0, _, Nat.zero_le _, rfl, rfl, (by rfl : _ = _), rfl, rfl⟩
  case round =>
    obtain ⟨j, r, hj, rfl, rfl, hr, rfl, rfl⟩ := hrel
    by_cases hlt : j < T.length
    · obtain ⟨x, e1, e2⟩ := split_at hlt
      have hb : bys T = bys (T.take j) ++ (tb x ++ bys (T.drop (j + 1))) := by
        conv => lhs; rw [e2]
        rw [bys_append]; rfl
      have hsl2 := HSL.out.trans hb
      have hsz := size_of hsl2
      have hle := chs_le (T.take j)
      have n1 : bys (T.take (j + 1)) = bys (T.take j) ++ tb x := by rw [e1, bys_append]; simp [bys]
      have n2 : chs (T.take (j + 1)) = chs (T.take j) ++ tc x := by rw [e1, chs_append]; simp [chs]
      have n3 : nO (T.take (j + 1)) = nO (T.take j) + isO x := by rw [e1, nO_append]; simp [nO]
      have n4 : nC (T.take (j + 1)) = nC (T.take j) + isC x := by rw [e1, nC_append]; simp [nC]
      have hrs : r.size ≤ (bys (T.take j)).length := by rw [size_of hr.out]; exact hle.1
      have hat := fun d c (hc : (tb x)[d]? = some c) => at_of hsl2 hc
      have hxl : (bys (T.take j)).length + (tb x).length ≤ s.size := by rw [hsz]; simp only [List.length_append]; omega
      have N1 := Lib.hid n1
      have N2 := Lib.hid n2
      have N3 := Lib.hid n3
      have N4 := Lib.hid n4
      generalize hP : (bys (T.take j)).length = P at hat hxl hrs hle
      have HPP := Lib.hid hP
      obtain ⟨c1, c2, c3⟩ := hle
      generalize nO (T.take j) = nb at c2 N3
      generalize nC (T.take j) = ne at c3 N4
      have hP0 : (0 : Int) ≤ (P : Int) := Int.natCast_nonneg _
      clear hP e1 e2 hb hsl2 hsz n1 n2 n3 n4 c1
      have lenN : (bys (T.take (j + 1))).length = P + (tb x).length := by rw [N1.out, List.length_append, HPP.out]
      have HLN := Lib.hid lenN
      clear lenN
      have hcase : (∃ t, x = .clo t) ∨ (∃ t, x = .opn t) ∨ x = .chr 60 ∨ x = .chr 38 ∨ ∃ c, x = .chr c ∧ ((c.toNat : Int) == 60) = false ∧ ((c.toNat : Int) == 38) = false ∧ tb (.chr c) = [c] := by
        cases x with
        | clo t => exact .inl ⟨t, rfl⟩
        | opn t => exact .inr (.inl ⟨t, rfl⟩)
        | chr c =>
          by_cases h1 : c = 60
          · exact .inr (.inr (.inl (by rw [h1])))
          · by_cases h2 : c = 38
            · exact .inr (.inr (.inr (.inl (by rw [h2]))))
            · have he : esc c = [c] := by simp [esc, h1, h2]
              refine .inr (.inr (.inr (.inr ⟨c, rfl, ?_⟩)))
              rcases byte3 c with ⟨_, h⟩ | ⟨_, _, h⟩ | ⟨ha, hb', _⟩
              · rw [he] at h; simp at h
              · rw [he] at h; simp at h
              · exact ⟨ha, hb', he⟩
      rcases hcase with ⟨t, rfl⟩ | ⟨t, rfl⟩ | rfl | rfl | ⟨c, rfl, hc1, hc2, htb⟩
      · have hb0 : P < s.size := by simp [tb] at hxl; omega
        have hk0 : (P : Int) < (s.size : Int) := by omega
        obtain ⟨g0, a0⟩ := hat 0 60 rfl
        obtain ⟨g1, a1⟩ := hat 1 47 rfl
        have t0 : ((s[P].toNat : Int) == 60) = true := by rw [show s[P] = 60 from a0]; rfl
        have t1 : ((s[P + 1].toNat : Int) == 47) = true := by rw [a1]; rfl
        have g1' : P + 1 < s.size := g1
        clear a0 a1
        clear hat hxl
        have hlast : (P : Int) + 1 < (s.size : Int) := by omega
        go_wp2
        go_round
        case rel =>
          refine ⟨j + 1, r, by omega, ?_, rfl, ?_, ?_, ?_⟩
          · rw [HLN.out]; simp [tb]
          · exact (show (r).data.toList = chs (T.take (j + 1)) from by rw [N2.out, hr.out]; simp [tc])
          · rw [N3.out]; rfl
          · rw [N4.out]; rfl
        case measure => simp [intOf]; omega
      · have hb0 : P < s.size := by simp [tb] at hxl; omega
        have hk0 : (P : Int) < (s.size : Int) := by omega
        obtain ⟨g0, a0⟩ := hat 0 60 rfl
        obtain ⟨g1, a1⟩ := hat 1 (tag t) rfl
        have t0 : ((s[P].toNat : Int) == 60) = true := by rw [show s[P] = 60 from a0]; rfl
        have t1 : ((s[P + 1].toNat : Int) == 47) = false := by rw [a1]; rcases tag_ne t with h | h | h <;> rw [h] <;> rfl
        have g1' : P + 1 < s.size := g1
        clear a0 a1
        clear hat hxl
        have hlast : (P : Int) + 1 < (s.size : Int) := by omega
        go_wp2
        go_round
        case rel =>
          refine ⟨j + 1, r, by omega, ?_, rfl, ?_, ?_, ?_⟩
          · rw [HLN.out]; simp [tb]
          · exact (show (r).data.toList = chs (T.take (j + 1)) from by rw [N2.out, hr.out]; simp [tc])
          · rw [N3.out]; rfl
          · rw [N4.out]; rfl
        case measure => simp [intOf]; omega
      · have hb0 : P < s.size := by simp [tb, esc] at hxl; omega
        have hk0 : (P : Int) < (s.size : Int) := by omega
        obtain ⟨g0, a0⟩ := hat 0 38 rfl
        obtain ⟨g1, a1⟩ := hat 1 108 rfl
        have t0 : ((s[P].toNat : Int) == 60) = false := by rw [show s[P] = 38 from a0]; rfl
        have t2 : ((s[P].toNat : Int) == 38) = true := by rw [show s[P] = 38 from a0]; rfl
        have t1 : ((s[P + 1].toNat : Int) == 108) = true := by rw [a1]; rfl
        have g1' : P + 1 < s.size := g1
        clear a0 a1
        clear hat hxl
        have hlast : (P : Int) + 1 < (s.size : Int) := by omega
        go_wp2
        go_round
        case rel =>
          refine ⟨j + 1, r ++ ⟨#[60]⟩, by omega, ?_, rfl, ?_, ?_, ?_⟩
          · rw [HLN.out]; simp [tb, esc]
          · exact (show (r ++ ⟨#[60]⟩).data.toList = chs (T.take (j + 1)) from by rw [N2.out, list_append, hr.out]; rfl)
          · rw [N3.out]; rfl
          · rw [N4.out]; rfl
        case measure => simp [intOf]; omega
      · have hb0 : P < s.size := by simp [tb, esc] at hxl; omega
        have hk0 : (P : Int) < (s.size : Int) := by omega
        obtain ⟨g0, a0⟩ := hat 0 38 rfl
        obtain ⟨g1, a1⟩ := hat 1 97 rfl
        have t0 : ((s[P].toNat : Int) == 60) = false := by rw [show s[P] = 38 from a0]; rfl
        have t2 : ((s[P].toNat : Int) == 38) = true := by rw [show s[P] = 38 from a0]; rfl
        have t1 : ((s[P + 1].toNat : Int) == 108) = false := by rw [a1]; rfl
        have g1' : P + 1 < s.size := g1
        clear a0 a1
        clear hat hxl
        have hlast : (P : Int) + 1 < (s.size : Int) := by omega
        go_wp2
        go_round
        case rel =>
          refine ⟨j + 1, r ++ ⟨#[38]⟩, by omega, ?_, rfl, ?_, ?_, ?_⟩
          · rw [HLN.out]; simp [tb, esc]
          · exact (show (r ++ ⟨#[38]⟩).data.toList = chs (T.take (j + 1)) from by rw [N2.out, list_append, hr.out]; rfl)
          · rw [N3.out]; rfl
          · rw [N4.out]; rfl
        case measure => simp [intOf]; omega
      · have hb0 : P < s.size := by simp [htb] at hxl; omega
        have hk0 : (P : Int) < (s.size : Int) := by omega
        obtain ⟨g0, a0⟩ := hat 0 c (by rw [htb]; rfl)
        have t0 : ((s[P].toNat : Int) == 60) = false := by rw [show s[P] = c from a0]; exact hc1
        have t2 : ((s[P].toNat : Int) == 38) = false := by rw [show s[P] = c from a0]; exact hc2
        have hx1 : (s.extract P (P + 1)).data.toList = [c] := by
          apply List.ext_getElem
          · simp; omega
          · intro i h1 h2
            have : i = 0 := by simp at h2; omega
            subst this
            simp
            exact a0
        have HXX := Lib.hid hx1
        clear a0 hx1
        clear hat hxl
        by_cases hlast : (P : Int) + 1 < (s.size : Int)
        · go_wp2
          go_round
          case rel =>
            refine ⟨j + 1, r ++ s.extract P (P + 1), by omega, ?_, rfl, ?_, ?_, ?_⟩
            · rw [HLN.out]; simp [htb]
            · exact (show (r ++ s.extract P (P + 1)).data.toList = chs (T.take (j + 1)) from by rw [N2.out, list_append, hr.out]; rw [HXX.out]; rfl)
            · rw [N3.out]; rfl
            · rw [N4.out]; rfl
          case measure => simp [intOf]; omega
        · go_wp2
          go_round
          case rel =>
            refine ⟨j + 1, r ++ s.extract P (P + 1), by omega, ?_, rfl, ?_, ?_, ?_⟩
            · rw [HLN.out]; simp [htb]
            · exact (show (r ++ s.extract P (P + 1)).data.toList = chs (T.take (j + 1)) from by rw [N2.out, list_append, hr.out]; rw [HXX.out]; rfl)
            · rw [N3.out]; rfl
            · rw [N4.out]; rfl
          case measure => simp [intOf]; omega
    · obtain rfl : j = T.length := by omega
      rw [List.take_length] at hr ⊢
      have hP : (bys T).length = s.size := by rw [← HSL.out, Array.length_toList]; rfl
      have hrt : r = txt := by
        have h : r.data.toList = txt.data.toList := hr.out.trans HCH.out
        rw [txt_eq h, ← txt_eq (s := txt) rfl]
      subst hrt
      rw [hP, HBAL.out]
      clear hP hr
      go_wp2_with fail
      refine (HT1.out _ HB5.out).mono ?_
      rintro e w6 ⟨rfl, b6⟩
      go_wp2
      go_ret
      exact ⟨rfl, HB1.out.trans ((HB5.out.trans (b6.mono HB5.out.size)).mono hz1)⟩

end Go.Proofs.Ytmhflifaeplalaa.RnB
