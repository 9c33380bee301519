/-
  Journals: which are right, as the model says it; the law's helpers on them (sizes, copies, held against each other, marked): the walks.
-/
import Derived.Test.YtijmaplejpnggaaDoorJk
import Derived.Test.YtijmaplejpnggaaDoorOl
namespace Go.Proofs.YtijmaplejpnggaaDoor
open Go Go.RowKit

theorem l01In_b (x a b : Int) (w : World) {q : Bool} (hq : (decide (a ≤ x) && decide (x ≤ b)) = q) :
    Calls Tryd.prog 40 #[.int .i64 x, .int .i64 a, .int .i64 b] w fun e w' => e = .returned (.bool q) ∧ w' = w := by
  subst hq
  by_cases h : a ≤ x ∧ x ≤ b
  · rw [decide_eq_true h.1, decide_eq_true h.2]; exact l01In_yes x a b w h.1 h.2
  · have e : (decide (a ≤ x) && decide (x ≤ b)) = false := by
      by_cases h1 : a ≤ x
      · rw [decide_eq_false (show ¬ x ≤ b from fun h2 => h ⟨h1, h2⟩), Bool.and_false]
      · rw [decide_eq_false h1, Bool.false_and]
    rw [e]; exact l01In_no x a b w (by omega)

set_option maxRecDepth 10000 in
set_option maxHeartbeats 1000000 in
theorem specJournalOk_try (n t v s st : Int) (ao : Option Addr) (k c : Nat) (l : List En) (w : World) (hr : Reads w (.slice ao k c) l) (hk : k ≤ 1048577) (hz : SizedE l) :
    Calls Tryd.prog 21 #[jV n t v s st (.slice ao k c)] w fun e w' => e = .returned (.bool (jokB n t v s st l)) ∧ Below w.heap.size w w' := by
  have HR : Hid (Reads w (.slice ao k c) l) := hr
  have HZ : Hid (SizedE l) := hz
  have HL : Hid (l.length ≤ 1048577) := by show _ ≤ _; rw [← hr.len]; exact hk
  clear hr hz
  obtain ⟨q1, H1⟩ : ∃ q, Hid ((decide (0 ≤ n) && decide (n ≤ 999)) = q) := ⟨_, rfl⟩
  obtain ⟨q2, H2⟩ : ∃ q, Hid ((decide (0 ≤ t) && decide (t ≤ 100000)) = q) := ⟨_, rfl⟩
  obtain ⟨q3, H3⟩ : ∃ q, Hid ((decide (0 ≤ v) && decide (v ≤ 4)) = q) := ⟨_, rfl⟩
  have HB : Hid (jokB n t v s st l = (q1 && (q2 && q3) && okL s st l)) := by
    show _ = _
    unfold jokB numB hdB
    rw [H1.out, ← H3.out, ← H2.out]
    simp only [Bool.and_assoc]
  rw [HB.out]
  have C1 : Hid (∀ w, Calls Tryd.prog 40 #[.int .i64 n, .int .i64 0, .int .i64 999] w fun e w' => e = .returned (.bool q1) ∧ w' = w) := fun w => l01In_b _ _ _ w H1.out
  have C2 : Hid (∀ w, Calls Tryd.prog 40 #[.int .i64 t, .int .i64 0, .int .i64 100000] w fun e w' => e = .returned (.bool q2) ∧ w' = w) := fun w => l01In_b _ _ _ w H2.out
  have C3 : Hid (∀ w, Calls Tryd.prog 40 #[.int .i64 v, .int .i64 0, .int .i64 4] w fun e w' => e = .returned (.bool q3) ∧ w' = w) := fun w => l01In_b _ _ _ w H3.out
  cases q1 with
  | false =>
    go_enter Tryd.func21, Tryd.ntmps21
    go_wp2_with (go_at_call 40; with_reducible refine Calls.mono (C1.out _) ?_; rintro e w' ⟨rfl, hw⟩; have hw2 := hw.symm; subst hw2)
    go_ret
    exact ⟨rfl, ba (Below.refl _ _) _⟩
  | true =>
    cases q2 with
    | false =>
      go_enter Tryd.func21, Tryd.ntmps21
      go_wp2_with (first | (go_at_call 40; with_reducible refine Calls.mono (C1.out _) ?_; rintro e w' ⟨rfl, hw⟩; have hw2 := hw.symm; subst hw2) | (go_at_call 40; with_reducible refine Calls.mono (C2.out _) ?_; rintro e w' ⟨rfl, hw⟩; have hw2 := hw.symm; subst hw2))
      go_ret
      exact ⟨rfl, ba (Below.refl _ _) _⟩
    | true =>
      cases q3 with
      | false =>
        go_enter Tryd.func21, Tryd.ntmps21
        go_wp2_with (first | (go_at_call 40; with_reducible refine Calls.mono (C1.out _) ?_; rintro e w' ⟨rfl, hw⟩; have hw2 := hw.symm; subst hw2) | (go_at_call 40; with_reducible refine Calls.mono (C2.out _) ?_; rintro e w' ⟨rfl, hw⟩; have hw2 := hw.symm; subst hw2) | (go_at_call 40; with_reducible refine Calls.mono (C3.out _) ?_; rintro e w' ⟨rfl, hw⟩; have hw2 := hw.symm; subst hw2))
        go_ret
        exact ⟨rfl, ba (Below.refl _ _) _⟩
      | true =>
        go_enter Tryd.func21, Tryd.ntmps21
        go_wp2_with (first | (go_at_call 40; with_reducible refine Calls.mono (C1.out _) ?_; rintro e w' ⟨rfl, hw⟩; have hw2 := hw.symm; subst hw2) | (go_at_call 40; with_reducible refine Calls.mono (C2.out _) ?_; rintro e w' ⟨rfl, hw⟩; have hw2 := hw.symm; subst hw2) | (go_at_call 40; with_reducible refine Calls.mono (C3.out _) ?_; rintro e w' ⟨rfl, hw⟩; have hw2 := hw.symm; subst hw2) | (go_at_call 44; refine (specLogOk_any (HR.out.alloc _) HL.out HZ.out).mono ?_; rintro e w3 ⟨rfl, hb3⟩))
        go_ret
        exact ⟨rfl, below_new hb3⟩
theorem specJournalOk_any {n t v s st : Int} {w : World} {x : Value} {l : List En} (hr : Reads w x l) (hk : l.length ≤ 1048577) (hz : SizedE l) :
    Calls Tryd.prog 21 #[jV n t v s st x] w fun e w' => e = .returned (.bool (jokB n t v s st l)) ∧ Below w.heap.size w w' := by
  obtain ⟨ao, c, rfl, _⟩ := id hr
  exact specJournalOk_try n t v s st ao _ c l w hr hk hz

set_option maxHeartbeats 1000000 in
theorem szJournal_any (n t v s st : Int) (x : Value) (l : List En) (left : Int) (w : World) (hr : Reads w x l) (hs : SmallEn l) (hl : left ≤ 1048576) (h0 : 0 ≤ left) (hn : l.length ≤ 9223372036854775807) :
    Calls Tryd.prog 20 #[jV n t v s st x, .int .i64 left] w fun e w' => ∃ r : Int, e = .returned (.int .i64 r) ∧ (r = -1 ∨ 0 ≤ r ∧ r = left - l.length - sizeEn l) ∧ Below w.heap.size w w' := by
  obtain ⟨ao, cap, rfl, _⟩ := id hr
  have HR : Hid (Reads w (.slice ao l.length cap) l) := hr
  clear hr
  go_enter Tryd.func20, Tryd.ntmps20
  go_wp2_with fail
  refine (szLog_any s st _ l _ _ (HR.out.alloc _) hs hl h0 hn).mono ?_
  rintro e w2 ⟨r2, rfl, h2, hb2⟩
  rcases h2 with rfl | ⟨h2, h3⟩
  · go_wp2
    go_ret
    exact ⟨-1, rfl, .inl rfl, below_new hb2⟩
  · have H3 : Hid (r2 = left - l.length - sizeEn l) := h3
    clear h3
    go_wp2
    go_ret
    exact ⟨r2, rfl, .inr ⟨h2, H3.out⟩, below_new hb2⟩

theorem ret_jou {fn : Func} {p : Tmp} {w : World} {g : Nat} {a b c d e f : Value} {tmps : Array Value} (h : fn.results = #[.cell p 48]) (hp : tmps.getD p undef = .pointer (some ⟨g, 0, none⟩)) (h0 : w.cell? ⟨g, 0, none⟩ = some a) (h1 : w.cell? ⟨g, 1, none⟩ = some b) (h2 : w.cell? ⟨g, 2, none⟩ = some c) (h3 : w.cell? ⟨g, 3, none⟩ = some d) (h4 : w.cell? ⟨g, 4, none⟩ = some e) (h5 : w.cell? ⟨g, 5, none⟩ = some f) :
    (results fn tmps).run Tryd.prog w = .ok (.agg #[a, b, c, d, e, f]) w := by
  have hp' : tmps[p]?.getD undef = .pointer (some ⟨g, 0, none⟩) := by simpa using hp
  simp [results, h, hp', h0, h1, h2, h3, h4, h5, asAddr, go_sem]
/-- The block of a journal that is wholly there. -/
theorem cells6_new {w w' : World} {a b c d e f : Value} {t : TypeId} (hb : Below (w.alloc (.cells #[a, b, c, d, e, f] t)).heap.size (w.alloc (.cells #[a, b, c, d, e, f] t)) w') :
    w'.cell? ⟨w.heap.size, 0, none⟩ = some a ∧ w'.cell? ⟨w.heap.size, 1, none⟩ = some b ∧ w'.cell? ⟨w.heap.size, 2, none⟩ = some c ∧ w'.cell? ⟨w.heap.size, 3, none⟩ = some d ∧ w'.cell? ⟨w.heap.size, 4, none⟩ = some e ∧ w'.cell? ⟨w.heap.size, 5, none⟩ = some f :=
  ⟨(hb.cell (by simp)).trans (by simp [go_sem]), (hb.cell (by simp)).trans (by simp [go_sem]), (hb.cell (by simp)).trans (by simp [go_sem]), (hb.cell (by simp)).trans (by simp [go_sem]), (hb.cell (by simp)).trans (by simp [go_sem]), (hb.cell (by simp)).trans (by simp [go_sem])⟩
end Go.Proofs.YtijmaplejpnggaaDoor
