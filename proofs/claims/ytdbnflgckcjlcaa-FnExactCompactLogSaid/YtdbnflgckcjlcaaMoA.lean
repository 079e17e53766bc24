/-
  Sorted lists of operations: what is in the insertion and in the union, that both are sorted, that a sorted list is known by its members; so: what LogInsert and LogMerge give of valid lists. No Go.
-/
import Derived.Test.YtdbnflgckcjlcaaLhB
namespace Go.Proofs.Ytdbnflgckcjlcaa.MoA
open Go.RowKit Go.Proofs.Ytdbnflgckcjlcaa.Base Go.Proofs.Ytdbnflgckcjlcaa.St Go.Proofs.Ytdbnflgckcjlcaa.StB Go.Proofs.Ytdbnflgckcjlcaa.OpA Go.Proofs.Ytdbnflgckcjlcaa.OpB Go.Proofs.Ytdbnflgckcjlcaa.LgA Go.Proofs.Ytdbnflgckcjlcaa.LgF Go.Proofs.Ytdbnflgckcjlcaa.LgP Go.Proofs.Ytdbnflgckcjlcaa.LgZ Go.Proofs.Ytdbnflgckcjlcaa.LhB
set_option linter.unusedVariables false

/-- The same ID. -/
def same (p q : OpV) : Prop := p.i = q.i ∧ p.j = q.j
theorem tri (p q : OpV) : lt p q = true ∨ lt q p = true ∨ same p q := by
  simp only [lt, slt, same, Bool.or_eq_true, Bool.and_eq_true, decide_eq_true_eq]
  omega
theorem lt_ne {p q : OpV} (h : lt p q = true) : ¬ same p q := by
  simp only [lt, slt, same, Bool.or_eq_true, Bool.and_eq_true, decide_eq_true_eq] at h ⊢
  omega
theorem lt_as {p q : OpV} (h : lt p q = true) : ¬ lt q p = true := by
  simp only [lt, slt, Bool.or_eq_true, Bool.and_eq_true, decide_eq_true_eq] at h ⊢
  omega
theorem lt_irr (p : OpV) : ¬ lt p p = true := fun h => lt_as h h
theorem same_symm {p q : OpV} (h : same p q) : same q p := ⟨h.1.symm, h.2.symm⟩
theorem same_refl (p : OpV) : same p p := ⟨rfl, rfl⟩
theorem srt_cons {a : OpV} {r : List OpV} : srt (a :: r) ↔ (∀ x ∈ r, lt a x = true) ∧ srt r := by
  constructor
  · exact fun h => ⟨srt_all r a h, h.2⟩
  · refine fun h => ⟨fun x hx => h.1 x ?_, h.2⟩
    cases r with
    | nil => cases hx
    | cons b t => obtain rfl : b = x := by simpa using hx
                  simp
theorem ins_cons (e x : OpV) (r : List OpV) : mstep e id (x :: r) = if lt x e then x :: mstep e id r else if lt e x then e :: x :: r else x :: r := by rw [mstep]; rfl

theorem mem_ins (e : OpV) : ∀ s, srt s → ∀ p, p ∈ mstep e id s ↔ p ∈ s ∨ (p = e ∧ ∀ q ∈ s, ¬ same q e)
  | [], _, p => by show p ∈ [e] ↔ _; simp
  | x :: r, h, p => by
    have h' := srt_cons.1 h
    rw [ins_cons]
    by_cases h1 : lt x e = true
    · rw [if_pos h1, List.mem_cons, mem_ins e r h'.2 p, List.mem_cons]
      constructor
      · rintro (h | h | ⟨h, k⟩)
        · exact .inl (.inl h)
        · exact .inl (.inr h)
        · refine .inr ⟨h, fun q hq => ?_⟩
          rcases List.mem_cons.1 hq with rfl | hq
          · exact lt_ne h1
          · exact k q hq
      · rintro ((h | h) | ⟨h, k⟩)
        · exact .inl h
        · exact .inr (.inl h)
        · exact .inr (.inr ⟨h, fun q hq => k q (List.mem_cons_of_mem _ hq)⟩)
    · rw [if_neg h1]
      by_cases h2 : lt e x = true
      · rw [if_pos h2, List.mem_cons]
        constructor
        · rintro (h | h)
          · refine .inr ⟨h, fun q hq hs => ?_⟩
            rcases List.mem_cons.1 hq with rfl | hq
            · exact lt_ne h2 (same_symm hs)
            · exact lt_ne (lt_trans h2 (h'.1 q hq)) (same_symm hs)
          · exact .inl h
        · rintro (h | h)
          · exact .inr h
          · exact .inl h.1
      · rw [if_neg h2]
        constructor
        · exact .inl
        · rintro (h | h)
          · exact h
          · rcases tri x e with k | k | k
            · exact absurd k h1
            · exact absurd k h2
            · exact absurd k (h.2 x (by simp))
theorem srt_ins (e : OpV) : ∀ s, srt s → srt (mstep e id s)
  | [], _ => ⟨fun x hx => (by cases hx), trivial⟩
  | x :: r, h => by
    have h' := srt_cons.1 h
    rw [ins_cons]
    by_cases h1 : lt x e = true
    · rw [if_pos h1, srt_cons]
      refine ⟨fun y hy => ?_, srt_ins e r h'.2⟩
      rcases (mem_ins e r h'.2 y).1 hy with hy | ⟨rfl, _⟩
      · exact h'.1 y hy
      · exact h1
    · rw [if_neg h1]
      by_cases h2 : lt e x = true
      · rw [if_pos h2, srt_cons]
        refine ⟨fun y hy => ?_, h⟩
        rcases List.mem_cons.1 hy with rfl | hy
        · exact h2
        · exact lt_trans h2 (h'.1 y hy)
      · rw [if_neg h2]
        exact h
theorem srt_ext : ∀ l m, srt l → srt m → (∀ p, p ∈ l ↔ p ∈ m) → l = m
  | [], [], _, _, _ => rfl
  | [], b :: m, _, _, h => absurd ((h b).2 (by simp)) (by simp)
  | a :: l, [], _, _, h => absurd ((h a).1 (by simp)) (by simp)
  | a :: l, b :: m, hl, hm, h => by
    have hl' := srt_cons.1 hl
    have hm' := srt_cons.1 hm
    have e : a = b := by
      rcases List.mem_cons.1 ((h a).1 (by simp)) with e | e
      · exact e
      · rcases List.mem_cons.1 ((h b).2 (by simp)) with k | k
        · exact k.symm
        · exact absurd (hl'.1 b k) (lt_as (hm'.1 a e))
    subst e
    rw [srt_ext l m hl'.2 hm'.2 fun p => ?_]
    constructor
    · intro hp
      rcases List.mem_cons.1 ((h p).1 (List.mem_cons_of_mem _ hp)) with rfl | k
      · exact absurd (hl'.1 p hp) (lt_irr p)
      · exact k
    · intro hp
      rcases List.mem_cons.1 ((h p).2 (List.mem_cons_of_mem _ hp)) with rfl | k
      · exact absurd (hm'.1 p hp) (lt_irr p)
      · exact k
/-- In a sorted list an ID stands once. -/
theorem srt_once : ∀ {l : List OpV}, srt l → ∀ {p q : OpV}, p ∈ l → q ∈ l → same p q → p = q
  | [], _, p, q, hp, _, _ => by cases hp
  | a :: l, h, p, q, hp, hq, hs => by
    have h' := srt_cons.1 h
    rcases List.mem_cons.1 hp with e | hp1
    · rcases List.mem_cons.1 hq with e1 | hq1
      · rw [e, e1]
      · exact absurd hs (lt_ne (by rw [e]; exact h'.1 q hq1))
    · rcases List.mem_cons.1 hq with e1 | hq1
      · exact absurd (same_symm hs) (lt_ne (by rw [e1]; exact h'.1 p hp1))
      · exact srt_once h'.2 hp1 hq1 hs

theorem fold_facts : ∀ (b : List OpV), srt b → ∀ a, srt a → srt (b.foldl (fun s e => mstep e id s) a) ∧ ∀ p, p ∈ b.foldl (fun s e => mstep e id s) a ↔ p ∈ a ∨ (p ∈ b ∧ ∀ q ∈ a, ¬ same q p)
  | [], _, a, ha => ⟨ha, fun p => by simp⟩
  | e :: t, hb, a, ha => by
    have hb' := srt_cons.1 hb
    have ih := fold_facts t hb'.2 (mstep e id a) (srt_ins e a ha)
    rw [List.foldl_cons]
    refine ⟨ih.1, fun p => ?_⟩
    rw [ih.2 p, mem_ins e a ha p]
    constructor
    · rintro ((h | ⟨rfl, h⟩) | ⟨h, k⟩)
      · exact .inl h
      · exact .inr ⟨by simp, h⟩
      · exact .inr ⟨List.mem_cons_of_mem _ h, fun q hq => k q ((mem_ins e a ha q).2 (.inl hq))⟩
    · rintro (h | ⟨h, k⟩)
      · exact .inl (.inl h)
      · rcases List.mem_cons.1 h with e1 | h1
        · exact .inl (.inr ⟨e1, by rw [← e1]; exact k⟩)
        · refine .inr ⟨h1, fun q hq => ?_⟩
          rcases (mem_ins e a ha q).1 hq with hq1 | ⟨e1, _⟩
          · exact k q hq1
          · rw [e1]; exact lt_ne (hb'.1 p h1)
theorem srt_uni {a b : List OpV} (ha : srt a) (hb : srt b) : srt (uni b a) := by rw [← foldl_uni b hb a]; exact (fold_facts b hb a ha).1
theorem mem_uni {a b : List OpV} (ha : srt a) (hb : srt b) (p : OpV) : p ∈ uni b a ↔ p ∈ a ∨ (p ∈ b ∧ ∀ q ∈ a, ¬ same q p) := by rw [← foldl_uni b hb a]; exact (fold_facts b hb a ha).2 p

/-- Two lists agree: what has the same ID is the same. -/
def Agr (a b : List OpV) : Prop := ∀ p ∈ a, ∀ q ∈ b, same p q → p = q
theorem uni_comm {a b : List OpV} (ha : srt a) (hb : srt b) (h : Agr a b) : uni a b = uni b a := by
  refine srt_ext _ _ (srt_uni hb ha) (srt_uni ha hb) fun p => ?_
  rw [mem_uni hb ha, mem_uni ha hb]
  constructor
  · rintro (k | ⟨k, _⟩)
    · by_cases e : ∃ q ∈ a, same q p
      · obtain ⟨q, hq, hs⟩ := e
        have := h q hq p k hs
        subst this
        exact .inl hq
      · exact .inr ⟨k, fun q hq hs => e ⟨q, hq, hs⟩⟩
    · exact .inl k
  · rintro (k | ⟨k, _⟩)
    · by_cases e : ∃ q ∈ b, same q p
      · obtain ⟨q, hq, hs⟩ := e
        have := h p k q hq (same_symm hs)
        subst this
        exact .inl hq
      · exact .inr ⟨k, fun q hq hs => e ⟨q, hq, hs⟩⟩
    · exact .inl k
theorem uni_again {a b : List OpV} (ha : srt a) (hb : srt b) : uni b (uni b a) = uni b a := by
  refine srt_ext _ _ (srt_uni (srt_uni ha hb) hb) (srt_uni ha hb) fun p => ?_
  rw [mem_uni (srt_uni ha hb) hb]
  constructor
  · rintro (k | ⟨k, hn⟩)
    · exact k
    · rw [mem_uni ha hb]
      refine .inr ⟨k, fun q hq => hn q ?_⟩
      rw [mem_uni ha hb]
      exact .inl hq
  · exact .inl
theorem uni_self {a : List OpV} (ha : srt a) : uni a a = a := by
  refine srt_ext _ _ (srt_uni ha ha) ha fun p => ?_
  rw [mem_uni ha ha]
  constructor
  · rintro (k | k)
    · exact k
    · exact k.1
  · exact .inl

theorem vlog_iff (os : List OpV) : vlog os = true ↔ os.length ≤ 40 ∧ (∀ p ∈ os, vop p = true) ∧ srt os := by
  constructor
  · intro h
    have h0 := h
    unfold vlog at h
    simp only [Bool.and_eq_true, decide_eq_true_eq] at h
    refine ⟨h.1, fun p hp => ?_, srt_of h.2.2⟩
    obtain ⟨k, hk, rfl⟩ := List.mem_iff_getElem.mp hp
    have := h.2.1
    unfold allTo at this
    rw [List.all_eq_true] at this
    have := this k (by simpa using hk)
    rwa [List.getD_eq_getElem?_getD, List.getElem?_eq_getElem hk] at this
  · rintro ⟨h0, h1, h2⟩
    unfold vlog
    simp only [Bool.and_eq_true, decide_eq_true_eq]
    refine ⟨h0, ?_, ?_⟩
    · unfold allTo
      rw [List.all_eq_true]
      intro k hk
      have hk : k < os.length := by simpa using hk
      rw [List.getD_eq_getElem?_getD, List.getElem?_eq_getElem hk]
      exact h1 _ (List.getElem_mem hk)
    · unfold ascTo
      rw [List.all_eq_true]
      intro k hk
      have hk : k + 1 < os.length := by have := List.mem_range.1 hk; omega
      clear h0 h1
      induction os generalizing k with
      | nil => cases hk
      | cons a r ih =>
        cases k with
        | zero =>
          cases r with
          | nil => simp at hk
          | cons b t => exact h2.1 b rfl
        | succ k => exact ih h2.2 k (by simp at hk ⊢; omega) (by simpa using hk)

/-! ### The insertion into a valid list -/
theorem ins_len (e : OpV) : ∀ s, srt s → ((∃ q ∈ s, same q e) → (mstep e id s).length = s.length) ∧ ((¬ ∃ q ∈ s, same q e) → (mstep e id s).length = s.length + 1)
  | [], _ => ⟨fun ⟨q, hq, _⟩ => (by cases hq), fun _ => rfl⟩
  | x :: r, h => by
    have h' := srt_cons.1 h
    have ih := ins_len e r h'.2
    rw [ins_cons]
    by_cases h1 : lt x e = true
    · rw [if_pos h1]
      constructor
      · rintro ⟨q, hq, hs⟩
        rcases List.mem_cons.1 hq with rfl | hq
        · exact absurd hs (lt_ne h1)
        · rw [List.length_cons, ih.1 ⟨q, hq, hs⟩]; rfl
      · intro hn
        rw [List.length_cons, ih.2 fun ⟨q, hq, hs⟩ => hn ⟨q, List.mem_cons_of_mem _ hq, hs⟩]; rfl
    · rw [if_neg h1]
      by_cases h2 : lt e x = true
      · rw [if_pos h2]
        constructor
        · rintro ⟨q, hq, hs⟩
          rcases List.mem_cons.1 hq with rfl | hq
          · exact absurd (same_symm hs) (lt_ne h2)
          · exact absurd (same_symm hs) (lt_ne (lt_trans h2 (h'.1 q hq)))
        · intro _; rfl
      · rw [if_neg h2]
        constructor
        · intro _; rfl
        · intro hn
          rcases tri x e with k | k | k
          · exact absurd k h1
          · exact absurd k h2
          · exact absurd ⟨x, by simp, k⟩ hn
theorem ins_has (e : OpV) {s : List OpV} (h : srt s) : ∃ q ∈ mstep e id s, same q e := by
  by_cases k : ∃ q ∈ s, same q e
  · obtain ⟨q, hq, hs⟩ := k
    exact ⟨q, (mem_ins e s h q).2 (.inl hq), hs⟩
  · exact ⟨e, (mem_ins e s h e).2 (.inr ⟨rfl, fun q hq hs => k ⟨q, hq, hs⟩⟩), same_refl e⟩
theorem ins_again (e : OpV) {s : List OpV} (h : srt s) : mstep e id (mstep e id s) = mstep e id s := by
  refine srt_ext _ _ (srt_ins e _ (srt_ins e s h)) (srt_ins e s h) fun p => ?_
  rw [mem_ins e _ (srt_ins e s h)]
  constructor
  · rintro (k | ⟨_, k⟩)
    · exact k
    · obtain ⟨q, hq, hs⟩ := ins_has e h
      exact absurd hs (k q hq)
  · exact .inl
/-- All that the law of LogInsert asks, of a valid list into which o could be put. -/
theorem ins_law {os : List OpV} {o : OpV} (h : insT os o = true) :
    insL os o = mstep o id os ∧ vlog (insL os o) = true ∧ insT (insL os o) o = true ∧ insL (insL os o) o = insL os o ∧ (∀ p ∈ os, p ∈ insL os o) ∧ (∃ q ∈ insL os o, same q o) ∧ ((∃ q ∈ os, same q o) → (insL os o).length = os.length) ∧ ((¬ ∃ q ∈ os, same q o) → (insL os o).length = os.length + 1) := by
  have h0 := h
  unfold insT at h
  simp only [Bool.and_eq_true, decide_eq_true_eq] at h
  obtain ⟨hv, ho, hl⟩ := h
  have hv' := (vlog_iff os).1 hv
  have e : insL os o = mstep o id os := by unfold insL; rw [if_pos hv, if_pos (by simp [ho, hl])]
  have v : vlog (mstep o id os) = true := by
    refine (vlog_iff _).2 ⟨hl, fun p hp => ?_, srt_ins o os hv'.2.2⟩
    rcases (mem_ins o os hv'.2.2 p).1 hp with hp | ⟨rfl, _⟩
    · exact hv'.2.1 p hp
    · exact ho
  have ag := ins_again o hv'.2.2
  rw [e]
  refine ⟨rfl, v, ?_, ?_, fun p hp => (mem_ins o os hv'.2.2 p).2 (.inl hp), ins_has o hv'.2.2, (ins_len o os hv'.2.2).1, (ins_len o os hv'.2.2).2⟩
  · unfold insT
    rw [v, ho, ag]
    simp [hl]
  · unfold insL
    rw [if_pos v, ag, if_pos (by simp [ho, hl])]
theorem ins_no {os : List OpV} {o : OpV} (hv : vlog os = true) (h : insT os o = false) : insL os o = os := by
  unfold insT at h
  unfold insL
  rw [hv, Bool.true_and] at h
  rw [if_pos hv, if_neg (by rw [h]; simp)]

/-! ### The union of valid lists -/
/-- All that the law of LogMerge asks, of two lists that agree and could be merged. -/
theorem merge_law {a b : List OpV} (h : mergeT a b = true) (hg : Agr a b) :
    vlog (mergeL a b) = true ∧ mergeT b a = true ∧ mergeL b a = mergeL a b ∧ mergeT (mergeL a b) b = true ∧ mergeL (mergeL a b) b = mergeL a b ∧ mergeT a a = true ∧ mergeL a a = a := by
  unfold mergeT at h
  simp only [Bool.and_eq_true, decide_eq_true_eq] at h
  obtain ⟨hva, hvb, hl⟩ := h
  have ha := (vlog_iff a).1 hva
  have hb := (vlog_iff b).1 hvb
  have e : mergeL a b = uni b a := by unfold mergeL; rw [if_pos (by simp [hva, hvb]), if_pos hl]
  have v : vlog (uni b a) = true := by
    refine (vlog_iff _).2 ⟨hl, fun p hp => ?_, srt_uni ha.2.2 hb.2.2⟩
    rcases (mem_uni ha.2.2 hb.2.2 p).1 hp with hp | ⟨hp, _⟩
    · exact ha.2.1 p hp
    · exact hb.2.1 p hp
  have c := uni_comm ha.2.2 hb.2.2 hg
  have g := uni_again ha.2.2 hb.2.2
  have s := uni_self ha.2.2
  rw [e]
  refine ⟨v, ?_, ?_, ?_, ?_, ?_, ?_⟩
  · unfold mergeT; rw [hva, hvb, c]; simp [hl]
  · unfold mergeL; rw [if_pos (by simp [hva, hvb]), c, if_pos hl]
  · unfold mergeT; rw [v, hvb, g]; simp [hl]
  · unfold mergeL; rw [if_pos (by simp [v, hvb]), g, if_pos hl]
  · unfold mergeT; rw [hva, s]; simp [ha.1]
  · unfold mergeL; rw [if_pos (by simp [hva]), s, if_pos ha.1]

end Go.Proofs.Ytdbnflgckcjlcaa.MoA
