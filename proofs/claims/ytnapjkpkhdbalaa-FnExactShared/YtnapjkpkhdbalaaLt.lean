/-
  The term of an index of a log, on both sides: the walks.
-/
import Derived.Test.YtnapjkpkhdbalaaLl
namespace Go.Proofs.Ytnapjkpkhdbalaa
open Go Go.RowKit

/-- The term of an index. -/
def termL (s t : Int) (l : List En) (i : Int) : Int := if i = s then t else if hasL s l.length i then ((l[(i - s - 1).toNat]?).map En.term).getD (-1) else -1
theorem termL_start (s t : Int) (l : List En) : termL s t l s = t := by simp [termL]
theorem termL_out {s t i : Int} {l : List En} (h : hasL s l.length i = false) : termL s t l i = -1 := by
  have : ¬ i = s := by rintro rfl; simp [hasL] at h; omega
  simp [termL, h, this]
theorem termL_in {s t : Int} {l : List En} {k : Nat} {f : En} (h : l[k]? = some f) : termL s t l (s + k + 1) = f.term := by
  have hk : k < l.length := (List.getElem?_eq_some_iff.1 h).1
  have e : (s + (k : Int) + 1 - s - 1).toNat = k := by omega
  have h1 : hasL s l.length (s + k + 1) = true := by unfold hasL; simp; omega
  unfold termL
  rw [if_neg (by omega), if_pos h1, e, h]
  rfl
theorem has_cases {s i : Int} {l : List En} (h : hasL s l.length i = true) (hne : i ≠ s) : ∃ (k : Nat) (f : En), l[k]? = some f ∧ i = s + (k : Int) + 1 := by
  simp only [hasL, Bool.and_eq_true, decide_eq_true_eq] at h
  exact ⟨(i - s - 1).toNat, _, List.getElem?_eq_getElem (by omega), by omega⟩

set_option maxRecDepth 10000 in
set_option maxHeartbeats 1000000 in
theorem logTerm_try (s t i : Int) (ao : Option Addr) (n c : Nat) (l : List En) (w : World) (hr : Reads w (.slice ao n c) l) (h0 : 0 ≤ s) (h1 : s ≤ 1000000) (hn : n ≤ 60) (hi : i ≤ 9223372036854775807) :
    Calls Try.prog 17 #[.agg #[.int .i64 s, .int .i64 t, .slice ao n c], .int .i64 i] w fun e w' => e = .returned (.int .i64 (termL s t l i)) ∧ Below w.heap.size w w' := by
  have HN : Hid (n = l.length) := hr.len
  have HR : Hid (Reads w (.slice ao n c) l) := hr
  clear hr
  cases hq : hasL s n i with
  | false =>
    rw [termL_out (by rw [← HN.out]; exact hq)]
    go_enter Try.func17, Try.ntmps17
    go_wp2_with (go_at_call 35; refine (has_any _ _ _ _ _ _ _ h0 h1 hn hi).mono ?_; rintro e w2 ⟨rfl, hb2⟩; rw [hq])
    go_ret
    exact ⟨rfl, below_new hb2⟩
  | true =>
    by_cases hs : i = s
    · subst hs
      rw [termL_start]
      go_enter Try.func17, Try.ntmps17
      go_wp2_with (go_at_call 35; refine (has_any _ _ _ _ _ _ _ h0 h1 hn hi).mono ?_; rintro e w2 ⟨rfl, hb2⟩; rw [hq]; have c5 : w2.cell? ⟨w.heap.size, 0, none⟩ = some (.int .i64 i) := (hb2.cell (by simp)).trans (by simp [go_sem]); have c6 : w2.cell? ⟨w.heap.size, 1, none⟩ = some (.int .i64 t) := (hb2.cell (by simp)).trans (by simp [go_sem]))
      go_ret
      exact ⟨rfl, below_new hb2⟩
    · obtain ⟨k, f, hf, rfl⟩ := has_cases (by rw [← HN.out]; exact hq) hs
      rw [termL_in hf]
      have hk : k < n := by rw [HN.out]; exact (List.getElem?_eq_some_iff.1 hf).1
      obtain ⟨b, o, rfl, hb, c0, c1, c2⟩ := en_at HR.out hf
      clear hf c1 c2
      have e1 : s + (k : Int) + 1 - s = (k : Int) + 1 := by omega
      go_enter Try.func17, Try.ntmps17
      go_wp2_with (go_at_call 35; refine (has_any _ _ _ _ _ _ _ h0 h1 hn hi).mono ?_; rintro e w2 ⟨rfl, hb2⟩; rw [hq]; have c5 : w2.cell? ⟨w.heap.size, 0, none⟩ = some (.int .i64 s) := (hb2.cell (by simp)).trans (by simp [go_sem]); have c6 : w2.cell? ⟨w.heap.size, 2, none⟩ = some (.slice (some ⟨b, o, none⟩) n c) := (hb2.cell (by simp)).trans (by simp [go_sem]); have c7 := cell_up (below_new hb2) c0)
      go_ret
      exact ⟨rfl, below_new hb2⟩

set_option maxRecDepth 10000 in
set_option maxHeartbeats 1000000 in
theorem specLogTerm_try (s t i : Int) (ao : Option Addr) (n c : Nat) (l : List En) (w : World) (hr : Reads w (.slice ao n c) l) (h0 : 0 ≤ s) (h1 : s ≤ 1000000) (hn : n ≤ 60) :
    Calls Try.prog 16 #[.agg #[.int .i64 s, .int .i64 t, .slice ao n c], .int .i64 i] w fun e w' => e = .returned (.int .i64 (termL s t l i)) ∧ Below w.heap.size w w' := by
  have HN : Hid (n = l.length) := hr.len
  have HR : Hid (Reads w (.slice ao n c) l) := hr
  clear hr
  by_cases hs : i = s
  · subst hs
    rw [termL_start]
    go_enter Try.func16, Try.ntmps16
    go_wp2
    go_ret
    exact ⟨rfl, ba (Below.refl _ _) _⟩
  cases hq : hasL s n i with
  | false =>
    rw [termL_out (by rw [← HN.out]; exact hq)]
    by_cases h2 : i < s
    · go_enter Try.func16, Try.ntmps16
      go_wp2
      go_ret
      exact ⟨rfl, ba (Below.refl _ _) _⟩
    · have h3 : s + n < i := by unfold hasL at hq; simp at hq; omega
      go_enter Try.func16, Try.ntmps16
      go_wp2_with (go_at_call 34; refine (l06Last_any _ _ _ _ _ _ h0 h1 hn).mono ?_; rintro e w2 ⟨rfl, hb2⟩)
      go_ret
      exact ⟨rfl, below_new hb2⟩
  | true =>
    obtain ⟨k, f, hf, rfl⟩ := has_cases (by rw [← HN.out]; exact hq) hs
    rw [termL_in hf]
    have hk : k < n := by rw [HN.out]; exact (List.getElem?_eq_some_iff.1 hf).1
    obtain ⟨b, o, rfl, hb, c0, c1, c2⟩ := en_at HR.out hf
    clear hf c1 c2
    have e1 : s + (k : Int) + 1 - s = (k : Int) + 1 := by omega
    go_enter Try.func16, Try.ntmps16
    go_wp2_with (go_at_call 34; refine (l06Last_any _ _ _ _ _ _ h0 h1 hn).mono ?_; rintro e w2 ⟨rfl, hb2⟩; have c5 : w2.cell? ⟨w.heap.size, 0, none⟩ = some (.int .i64 s) := (hb2.cell (by simp)).trans (by simp [go_sem]); have c6 : w2.cell? ⟨w.heap.size, 2, none⟩ = some (.slice (some ⟨b, o, none⟩) n c) := (hb2.cell (by simp)).trans (by simp [go_sem]); have c7 := cell_up (below_new hb2) c0)
    go_ret
    exact ⟨rfl, below_new hb2⟩
end Go.Proofs.Ytnapjkpkhdbalaa
