/-
  Journals: which are right, as the model says it; the law's helpers on them (sizes, copies, held against each other, marked): the walks. Journals: the law's helpers on them (copies, held against each other, marked): the walks; a journal that came in.
-/
import Derived.Test.YtijmaplejpnggaaDoorJk
import Derived.Test.YtijmaplejpnggaaDoorOl
import Derived.Lib.SmallJoins
namespace Go.Proofs.YtijmaplejpnggaaDoor
open Go Go.RowKit

theorem l01In_b (x a b : Int) (w : World) {q : Bool} (hq : (decide (a ≤ x) && decide (x ≤ b)) = q) :
    Calls Tryd.prog 40 #[.int .i64 x, .int .i64 a, .int .i64 b] w fun e w' => e = .returned (.bool q) ∧ w' = w := by
  subst hq
  by_cases h : a ≤ x ∧ x ≤ b
  · rw [decide_eq_true h.1, decide_eq_true h.2]; exact l01In_yes x a b w h.1 h.2
  · have e : (decide (a ≤ x) && decide (x ≤ b)) = false := by
      by_cases h1 : a ≤ x
      · rw [decide_eq_false (show ¬ x ≤ b from fun h2 => h ⟨h1, h2⟩), Bool.and_false]
      · rw [decide_eq_false h1, Bool.false_and]
    rw [e]; exact l01In_no x a b w (by omega)

set_option maxRecDepth 10000 in
set_option maxHeartbeats 1000000 in
theorem specJournalOk_try (n t v s st : Int) (ao : Option Addr) (k c : Nat) (l : List En) (w : World) (hr : Reads w (.slice ao k c) l) (hk : k ≤ 1048577) (hz : SizedE l) :
    Calls Tryd.prog 21 #[jV n t v s st (.slice ao k c)] w fun e w' => e = .returned (.bool (jokB n t v s st l)) ∧ Below w.heap.size w w' := by
  have HR : Hid (Reads w (.slice ao k c) l) := hr
  have HZ : Hid (SizedE l) := hz
  have HL : Hid (l.length ≤ 1048577) := by show _ ≤ _; rw [← hr.len]; exact hk
  clear hr hz
  obtain ⟨q1, H1⟩ : ∃ q, Hid ((decide (0 ≤ n) && decide (n ≤ 999)) = q) := ⟨_, rfl⟩
  obtain ⟨q2, H2⟩ : ∃ q, Hid ((decide (0 ≤ t) && decide (t ≤ 100000)) = q) := ⟨_, rfl⟩
  obtain ⟨q3, H3⟩ : ∃ q, Hid ((decide (0 ≤ v) && decide (v ≤ 4)) = q) := ⟨_, rfl⟩
  have HB : Hid (jokB n t v s st l = (q1 && (q2 && q3) && okL s st l)) := by
    show _ = _
    unfold jokB numB hdB
    rw [H1.out, ← H3.out, ← H2.out]
    simp only [Bool.and_assoc]
  rw [HB.out]
  have C1 : Hid (∀ w, Calls Tryd.prog 40 #[.int .i64 n, .int .i64 0, .int .i64 999] w fun e w' => e = .returned (.bool q1) ∧ w' = w) := fun w => l01In_b _ _ _ w H1.out
  have C2 : Hid (∀ w, Calls Tryd.prog 40 #[.int .i64 t, .int .i64 0, .int .i64 100000] w fun e w' => e = .returned (.bool q2) ∧ w' = w) := fun w => l01In_b _ _ _ w H2.out
  have C3 : Hid (∀ w, Calls Tryd.prog 40 #[.int .i64 v, .int .i64 0, .int .i64 4] w fun e w' => e = .returned (.bool q3) ∧ w' = w) := fun w => l01In_b _ _ _ w H3.out
  cases q1 with
  | false =>
    go_enter Tryd.func21, Tryd.ntmps21
    go_wp2_with (go_at_call 40; with_reducible refine Calls.mono (C1.out _) ?_; rintro e w' ⟨rfl, hw⟩; have hw2 := hw.symm; subst hw2)
    go_ret
    exact ⟨rfl, ba (Below.refl _ _) _⟩
  | true =>
    cases q2 with
    | false =>
      go_enter Tryd.func21, Tryd.ntmps21
      go_wp2_with (first | (go_at_call 40; with_reducible refine Calls.mono (C1.out _) ?_; rintro e w' ⟨rfl, hw⟩; have hw2 := hw.symm; subst hw2) | (go_at_call 40; with_reducible refine Calls.mono (C2.out _) ?_; rintro e w' ⟨rfl, hw⟩; have hw2 := hw.symm; subst hw2))
      go_ret
      exact ⟨rfl, ba (Below.refl _ _) _⟩
    | true =>
      cases q3 with
      | false =>
        go_enter Tryd.func21, Tryd.ntmps21
        go_wp2_with (first | (go_at_call 40; with_reducible refine Calls.mono (C1.out _) ?_; rintro e w' ⟨rfl, hw⟩; have hw2 := hw.symm; subst hw2) | (go_at_call 40; with_reducible refine Calls.mono (C2.out _) ?_; rintro e w' ⟨rfl, hw⟩; have hw2 := hw.symm; subst hw2) | (go_at_call 40; with_reducible refine Calls.mono (C3.out _) ?_; rintro e w' ⟨rfl, hw⟩; have hw2 := hw.symm; subst hw2))
        go_ret
        exact ⟨rfl, ba (Below.refl _ _) _⟩
      | true =>
        go_enter Tryd.func21, Tryd.ntmps21
        go_wp2_with (first | (go_at_call 40; with_reducible refine Calls.mono (C1.out _) ?_; rintro e w' ⟨rfl, hw⟩; have hw2 := hw.symm; subst hw2) | (go_at_call 40; with_reducible refine Calls.mono (C2.out _) ?_; rintro e w' ⟨rfl, hw⟩; have hw2 := hw.symm; subst hw2) | (go_at_call 40; with_reducible refine Calls.mono (C3.out _) ?_; rintro e w' ⟨rfl, hw⟩; have hw2 := hw.symm; subst hw2) | (go_at_call 44; refine (specLogOk_any (HR.out.alloc _) HL.out HZ.out).mono ?_; rintro e w3 ⟨rfl, hb3⟩))
        go_ret
        exact ⟨rfl, below_new hb3⟩
theorem specJournalOk_any {n t v s st : Int} {w : World} {x : Value} {l : List En} (hr : Reads w x l) (hk : l.length ≤ 1048577) (hz : SizedE l) :
    Calls Tryd.prog 21 #[jV n t v s st x] w fun e w' => e = .returned (.bool (jokB n t v s st l)) ∧ Below w.heap.size w w' := by
  obtain ⟨ao, c, rfl, _⟩ := id hr
  exact specJournalOk_try n t v s st ao _ c l w hr hk hz

set_option maxHeartbeats 1000000 in
theorem szJournal_any (n t v s st : Int) (x : Value) (l : List En) (left : Int) (w : World) (hr : Reads w x l) (hs : SmallEn l) (hl : left ≤ 1048576) (h0 : 0 ≤ left) (hn : l.length ≤ 9223372036854775807) :
    Calls Tryd.prog 20 #[jV n t v s st x, .int .i64 left] w fun e w' => ∃ r : Int, e = .returned (.int .i64 r) ∧ (r = -1 ∨ 0 ≤ r ∧ r = left - l.length - sizeEn l) ∧ Below w.heap.size w w' := by
  obtain ⟨ao, cap, rfl, _⟩ := id hr
  have HR : Hid (Reads w (.slice ao l.length cap) l) := hr
  clear hr
  go_enter Tryd.func20, Tryd.ntmps20
  go_wp2_with fail
  refine (szLog_any s st _ l _ _ (HR.out.alloc _) hs hl h0 hn).mono ?_
  rintro e w2 ⟨r2, rfl, h2, hb2⟩
  rcases h2 with rfl | ⟨h2, h3⟩
  · go_wp2
    go_ret
    exact ⟨-1, rfl, .inl rfl, below_new hb2⟩
  · have H3 : Hid (r2 = left - l.length - sizeEn l) := h3
    clear h3
    go_wp2
    go_ret
    exact ⟨r2, rfl, .inr ⟨h2, H3.out⟩, below_new hb2⟩

theorem ret_jou {fn : Func} {p : Tmp} {w : World} {g : Nat} {a b c d e f : Value} {tmps : Array Value} (h : fn.results = #[.cell p 48]) (hp : tmps.getD p undef = .pointer (some ⟨g, 0, none⟩)) (h0 : w.cell? ⟨g, 0, none⟩ = some a) (h1 : w.cell? ⟨g, 1, none⟩ = some b) (h2 : w.cell? ⟨g, 2, none⟩ = some c) (h3 : w.cell? ⟨g, 3, none⟩ = some d) (h4 : w.cell? ⟨g, 4, none⟩ = some e) (h5 : w.cell? ⟨g, 5, none⟩ = some f) :
    (results fn tmps).run Tryd.prog w = .ok (.agg #[a, b, c, d, e, f]) w := by
  have hp' : tmps[p]?.getD undef = .pointer (some ⟨g, 0, none⟩) := by simpa using hp
  simp [results, h, hp', h0, h1, h2, h3, h4, h5, asAddr, go_sem]
/-- The block of a journal that is wholly there. -/
theorem cells6_new {w w' : World} {a b c d e f : Value} {t : TypeId} (hb : Below (w.alloc (.cells #[a, b, c, d, e, f] t)).heap.size (w.alloc (.cells #[a, b, c, d, e, f] t)) w') :
    w'.cell? ⟨w.heap.size, 0, none⟩ = some a ∧ w'.cell? ⟨w.heap.size, 1, none⟩ = some b ∧ w'.cell? ⟨w.heap.size, 2, none⟩ = some c ∧ w'.cell? ⟨w.heap.size, 3, none⟩ = some d ∧ w'.cell? ⟨w.heap.size, 4, none⟩ = some e ∧ w'.cell? ⟨w.heap.size, 5, none⟩ = some f :=
  ⟨(hb.cell (by simp)).trans (by simp [go_sem]), (hb.cell (by simp)).trans (by simp [go_sem]), (hb.cell (by simp)).trans (by simp [go_sem]), (hb.cell (by simp)).trans (by simp [go_sem]), (hb.cell (by simp)).trans (by simp [go_sem]), (hb.cell (by simp)).trans (by simp [go_sem])⟩
end Go.Proofs.YtijmaplejpnggaaDoor

namespace Go.Proofs.YtijmaplejpnggaaDoor
open Go Go.RowKit

set_option maxRecDepth 10000 in
set_option maxHeartbeats 2000000 in
theorem toJournal_any (n t v s st : Int) (x : Value) (l : List En) (w : World) (hr : Reads w x l) (hn : l.length ≤ 1048576) :
    Calls Tryd.prog 22 #[jV n t v s st x] w fun e w' => ∃ x', e = .returned (jV n t v s st x') ∧ ownsR w' w.heap.size 94 x' l ∧ Below w.heap.size w w' := by
  obtain ⟨ao, cap, rfl, _⟩ := id hr
  have HR : Hid (Reads w (.slice ao l.length cap) l) := hr
  clear hr
  go_enter Tryd.func22, Tryd.ntmps22
  go_wp2_with fail
  refine Calls.mono (toLog_any s st _ l _ (HR.out.below ?_) hn) ?_
  · exact ba (ba (ba (Below.refl _ _) _) _) _
  rintro e w2 ⟨v2, rfl, h2, hb2⟩
  obtain ⟨ao2, cap2, rfl⟩ := h2.slice
  have q0 : w2.cell? ⟨w.heap.size + 1 + 1, 0, none⟩ = some (.int .i64 n) := (hb2.cell (by simp)).trans (by simp [go_sem])
  have q1 : w2.cell? ⟨w.heap.size + 1 + 1, 1, none⟩ = some (.int .i64 t) := (hb2.cell (by simp)).trans (by simp [go_sem])
  have q2 : w2.cell? ⟨w.heap.size + 1 + 1, 2, none⟩ = some (.int .i64 v) := (hb2.cell (by simp)).trans (by simp [go_sem])
  have q3 : w2.cell? ⟨w.heap.size + 1 + 1, 3, none⟩ = some (.int .i64 0) := (hb2.cell (by simp)).trans (by simp [go_sem])
  have q4 : w2.cell? ⟨w.heap.size + 1 + 1, 4, none⟩ = some (.int .i64 0) := (hb2.cell (by simp)).trans (by simp [go_sem])
  have q5 : w2.cell? ⟨w.heap.size + 1 + 1, 5, none⟩ = some (.slice none 0 0) := (hb2.cell (by simp)).trans (by simp [go_sem])
  have z3 : w2.frozen? ⟨w.heap.size + 1 + 1, 3, none⟩ = false := (hb2.frozen (by simp)).trans (by simp [go_sem])
  have z4 : w2.frozen? ⟨w.heap.size + 1 + 1, 4, none⟩ = false := (hb2.frozen (by simp)).trans (by simp [go_sem])
  have z5 : w2.frozen? ⟨w.heap.size + 1 + 1, 5, none⟩ = false := (hb2.frozen (by simp)).trans (by simp [go_sem])
  have p0 : w2.cell? ⟨w.heap.size + 1, 0, none⟩ = some (.int .i64 0) := (hb2.cell (by simp)).trans (by simp [go_sem])
  have p1 : w2.cell? ⟨w.heap.size + 1, 1, none⟩ = some (.int .i64 0) := (hb2.cell (by simp)).trans (by simp [go_sem])
  have p2 : w2.cell? ⟨w.heap.size + 1, 2, none⟩ = some (.int .i64 0) := (hb2.cell (by simp)).trans (by simp [go_sem])
  have p3 : w2.cell? ⟨w.heap.size + 1, 3, none⟩ = some (.int .i64 0) := (hb2.cell (by simp)).trans (by simp [go_sem])
  have p4 : w2.cell? ⟨w.heap.size + 1, 4, none⟩ = some (.int .i64 0) := (hb2.cell (by simp)).trans (by simp [go_sem])
  have p5 : w2.cell? ⟨w.heap.size + 1, 5, none⟩ = some (.slice none 0 0) := (hb2.cell (by simp)).trans (by simp [go_sem])
  have y0 : w2.frozen? ⟨w.heap.size + 1, 0, none⟩ = false := (hb2.frozen (by simp)).trans (by simp [go_sem])
  have y1 : w2.frozen? ⟨w.heap.size + 1, 1, none⟩ = false := (hb2.frozen (by simp)).trans (by simp [go_sem])
  have y2 : w2.frozen? ⟨w.heap.size + 1, 2, none⟩ = false := (hb2.frozen (by simp)).trans (by simp [go_sem])
  have y3 : w2.frozen? ⟨w.heap.size + 1, 3, none⟩ = false := (hb2.frozen (by simp)).trans (by simp [go_sem])
  have y4 : w2.frozen? ⟨w.heap.size + 1, 4, none⟩ = false := (hb2.frozen (by simp)).trans (by simp [go_sem])
  have y5 : w2.frozen? ⟨w.heap.size + 1, 5, none⟩ = false := (hb2.frozen (by simp)).trans (by simp [go_sem])
  have hsz : w.heap.size + 1 + 1 < w2.heap.size := by have := hb2.size; simp at this; omega
  go_wp2
  refine bodyPost_ret (ret_jou (a := .int .i64 n) (b := .int .i64 t) (c := .int .i64 v) (d := .int .i64 s) (e := .int .i64 st) (f := .slice ao2 l.length cap2) rfl rfl (by simp [go_sem, p0]) (by simp [go_sem, p1]) (by simp [go_sem, p2]) (by simp [go_sem, p3]) (by simp [go_sem, p4]) (by simp [go_sem, p5])) rfl ⟨_, rfl, ?_, ?_⟩
  · have h3 : ownsR w2 (w.heap.size + 1 + 1 + 1) 94 (.slice ao2 l.length cap2) l := by simpa using h2
    refine ownsR.mono (B := w.heap.size + 1 + 1 + 1) ?_ (by omega)
    iterate 9 (refine ownsR.setBelow ?_ (by simp) _)
    exact h3
  · have hb3 : Below w.heap.size w w2 := by
      exact Below.trans (ba (ba (ba (Below.refl _ _) _) _) _) (hb2.mono (by simp; omega))
    iterate 9 (refine Below.setCell ?_ (by first | (simp; done) | (simp; omega)) _)
    exact hb3

set_option maxRecDepth 10000 in
set_option maxHeartbeats 1000000 in
theorem eqJournal_any (n t v s st : Int) (va vb : Value) (l : List En) (w : World) (ha : Reads w va l) (hb : Reads w vb l) (hn : l.length ≤ 1048577) :
    Calls Tryd.prog 24 #[jV n t v s st va, jV n t v s st vb] w fun e w' => e = .returned (.bool true) ∧ Below w.heap.size w w' := by
  obtain ⟨ao, c, rfl, _⟩ := id ha
  obtain ⟨bo, d, rfl, _⟩ := id hb
  have HA : Hid (Reads w (.slice ao l.length c) l) := ha
  have HB : Hid (Reads w (.slice bo l.length d) l) := hb
  clear ha hb
  go_enter Tryd.func24, Tryd.ntmps24
  go_wp2_with (go_at_call 48; refine (eqLog_any s st _ _ l _ ((HA.out.alloc _).alloc _) ((HB.out.alloc _).alloc _) hn).mono ?_; rintro e w2 ⟨rfl, hb2⟩)
  go_ret
  exact ⟨rfl, (ba (ba (Below.refl _ _) _) _).trans (hb2.mono (by simp; omega))⟩

theorem cellsJ : Tryd.prog.cellsOf 41 = 6 := by kernel_rfl
theorem cellsJl : Tryd.prog.cellsOf 39 = 3 := by kernel_rfl
theorem len6 {α : Type} {l : List α} (h : l.length = 6) : ∃ a b c d e f, l = [a, b, c, d, e, f] := by
  match l, h with
  | [a, b, c, d, e, f], _ => exact ⟨a, b, c, d, e, f, rfl⟩
theorem open_journal {H : Type} {enc : TypeId × Value → H} {W : World} {v : Value} {d : DataW H} {p : List MemPlace} (hv : ∃ cs, v = .agg cs ∧ cs.size = Tryd.prog.cellsOf 41) (h : DataW.Trod enc Tryd.prog W 0 (fun _ => true) true 41 v d p) :
    ∃ (n t v' s st : Int) (a : Option Addr) (k c : Nat) (l : List En), v = jV n t v' s st (.slice a k c) ∧ Reads W (.slice a k c) l ∧ SmallEn l ∧ k ≤ 9223372036854775807 := by
  obtain ⟨cs, rfl, _⟩ := hv
  obtain ⟨fuel, hf⟩ := h
  obtain ⟨y0, y1, y2, y3, m, _, hl, e0, e1, e2, e3⟩ := Go.Joins.trod_struct4 Tryd.underlying41 hf
  rw [cellsJ] at hl
  obtain ⟨c0, c1, c2, c3, c4, c5, hcs⟩ := len6 hl
  simp only [cellsJl, cells3, hcs, List.drop_zero, List.drop_succ_cons, List.take_succ_cons, List.take_zero] at e0 e1 e2 e3
  obtain ⟨k0, g0, _, _⟩ := DataW.trod_int Tryd.underlying3 e0
  obtain ⟨k1, g1, _, _⟩ := DataW.trod_int Tryd.underlying3 e1
  obtain ⟨k2, g2, _, _⟩ := DataW.trod_int Tryd.underlying3 e2
  simp only [List.cons.injEq, and_true] at g0 g1 g2
  subst g0 g1 g2
  obtain ⟨s, st, a, k, c, l, hv, hr, hS, hk⟩ := open_log (v := .agg #[c3, c4, c5]) (d := y3.1) (p := y3.2) ⟨#[c3, c4, c5], rfl, by rw [cellsJl]; rfl⟩ ⟨m, e3⟩
  simp only [Value.agg.injEq] at hv
  have hv2 := congrArg Array.toList hv
  simp only [List.cons.injEq, and_true] at hv2
  obtain ⟨rfl, rfl, rfl⟩ := hv2
  refine ⟨k0, k1, k2, s, st, a, k, c, l, ?_, hr, hS, hk⟩
  have e : cs.toList = [.int .i64 k0, .int .i64 k1, .int .i64 k2, .int .i64 s, .int .i64 st, .slice a k c] := hcs
  show Value.agg cs = Value.agg _
  congr 1
  exact Array.toList_inj.1 e
end Go.Proofs.YtijmaplejpnggaaDoor
