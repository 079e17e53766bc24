/-
  The reader: newReader and DrawStampLess: two stamps, whatever the bytes. For every slice of bytes; no condition.
-/
import Derived.Test.YtmhflifaeplalaaRdC
namespace Go.Proofs.Ytmhflifaeplalaa.RdD
open Go.RowKit Go.Proofs.Ytmhflifaeplalaa.Base Go.Proofs.Ytmhflifaeplalaa.RdA Go.Proofs.Ytmhflifaeplalaa.RdB Go.Proofs.Ytmhflifaeplalaa.RdC

theorem byte_wf {z : Int} (h : (Lit.int .u8 z).wf = true) : 0 ≤ z ∧ z ≤ 255 := by
  simp [Lit.wf, IntKind.min, IntKind.max, IntKind.bits, IntKind.signed] at h
  omega

theorem bytes_rd {w : World} {a : Option Addr} {len cap : Nat} {zs : List Int} (h : IsRow .u8 w a len cap zs) : ∃ xs : List Int, xs.length = len ∧ len ≤ cap ∧ RdB w a xs := by
  rcases h with ⟨rfl, rfl, rfl, rfl⟩ | ⟨x, rfl, hl, hm, hz, hc, hw⟩
  · exact ⟨[], rfl, Nat.le_refl _, .inl rfl⟩
  · refine ⟨zs.take len, by simp; omega, hl, ?_⟩
    by_cases h0 : len = 0
    · left; simp [h0]
    · obtain ⟨b, off, spot⟩ := x
      have h1 := hc 0 (by omega)
      have hspot : spot = none := by simpa [Addr.add] using World.cell?_spot h1
      subst hspot
      refine .inr ⟨b, off, rfl, fun i hi => ?_⟩
      have hi' : i < len := by simp at hi; omega
      have h2 := hc i (by omega)
      have e : (zs.take len).getD i 0 = zs.getD i 0 := by simp [List.getD_eq_getElem?_getD, hi']
      rw [e]
      refine ⟨?_, byte_wf (hw _ (by rw [List.getD_eq_getElem?_getD, List.getElem?_eq_getElem (by omega)]; exact List.getElem_mem _))⟩
      rw [← h2]
      congr 1
      unfold Addr.add
      by_cases i0 : i = 0 <;> simp [i0]

theorem rdb_below {w w' : World} {a : Option Addr} {zs : List Int} (h : RdB w a zs) (hb : Below w.heap.size w w') : RdB w' a zs := by
  rcases h with h | ⟨b, off, ha, hc⟩
  · exact .inl h
  · refine .inr ⟨b, off, ha, fun i hi => ⟨?_, (hc i hi).2⟩⟩
    exact (hb.cell (World.block_lt_of_cell? w _ (hc i hi).1)).trans (hc i hi).1

/-- A new reader, in a block of the call's own. -/
def NewR (w : World) (e : Ending) (w' : World) : Prop :=
  e = .returned (.pointer (some ⟨w.heap.size, 0, none⟩)) ∧ (∃ a cap zs, RS (w.heap.size + 1) w' w.heap.size a cap 0 zs) ∧ Below w.heap.size w w' ∧ w.heap.size < w'.heap.size

theorem newR_of (w : World) (a : Option Addr) (len cap : Nat) (zs : List Int) (hl : zs.length = len) (hr : RdB w a zs) (h2 : len ≤ 2000) :
    NewR w (.returned (.pointer (some ⟨w.heap.size, 0, none⟩))) (w.alloc (.cells #[.slice a len cap, .int .i64 0] 111)) := by
  have hb : Below w.heap.size w (w.alloc (.cells #[.slice a len cap, .int .i64 0] 111)) := (Below.refl _ _).alloc (Nat.le_refl _) _
  refine ⟨rfl, ⟨a, cap, zs, ?_, by omega, by omega, ?_⟩, hb, by simp⟩
  · rw [hl]
    exact heap_alloc_new w _
  · rcases rdb_below hr hb with h | ⟨b, off, ha, hc⟩
    · exact .inl h
    · by_cases h0 : zs.length = 0
      · exact .inl (List.length_eq_zero_iff.1 h0)
      · rcases hr with h | ⟨b', off', ha', hc'⟩
        · exact .inl h
        · obtain ⟨rfl, rfl⟩ : b = b' ∧ off = off' := by
            rw [ha] at ha'
            injection ha' with e
            injection e with e1 e2
            exact ⟨e1, e2⟩
          have lt : b < w.heap.size := World.block_lt_of_cell? w _ (hc' 0 (by omega)).1
          exact .inr ⟨b, off, ha, by omega, by omega, hc⟩

theorem newReader (a : Option Addr) (cap : Nat) (zs : List Int) (w : World) (hr : RdB w a zs) (hc : zs.length ≤ cap) :
    Calls Try.prog 45 #[.slice a zs.length cap] w (NewR w) := by
  by_cases h : zs.length ≤ 2000
  · have h' : ¬ (2000 : Int) < (zs.length : Int) := by omega
    have HN := Lib.hid (newR_of w a zs.length cap zs rfl hr h)
    clear hr
    go_enter Try.func45, Try.ntmps45
    go_wp2
    go_ret
    exact HN.out
  · have h' : (2000 : Int) < (zs.length : Int) := by omega
    have h2 : (2000 : Int) ≤ (cap : Int) := by omega
    have hr2 : RdB w a (zs.take 2000) := by
      rcases hr with h | ⟨b, off, ha, hcs⟩
      · subst h; simp at h'
      · refine .inr ⟨b, off, ha, fun i hi => ?_⟩
        have hi' : i < 2000 := by simp at hi; omega
        have e : (zs.take 2000).getD i 0 = zs.getD i 0 := by simp [List.getD_eq_getElem?_getD, hi']
        rw [e]
        exact hcs i (by omega)
    have HN := Lib.hid (fun c => newR_of w a 2000 c (zs.take 2000) (by simp; omega) hr2 (by omega))
    obtain ⟨b, off, rfl⟩ : ∃ b off, a = some ⟨b, off, none⟩ := by
      rcases hr with h | ⟨b, off, ha, _⟩
      · subst h; simp at h'
      · exact ⟨b, off, ha⟩
    clear hr hr2
    go_enter Try.func45, Try.ntmps45
    go_wp2
    go_ret
    exact HN.out _

end Go.Proofs.Ytmhflifaeplalaa.RdD
