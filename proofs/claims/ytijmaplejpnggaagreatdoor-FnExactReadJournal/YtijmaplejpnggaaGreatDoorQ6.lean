/-
  An entry that came in as an argument, opened. A log that came in as an argument, opened. Journals: which are right, as the model says it; the law's helpers on them (sizes, copies, held against each other, marked): the walks. Journals: the law's helpers on them (copies, held against each other, marked): the walks; a journal that came in. A region that draws its order: its first operations only read (their callees turn nothing that lay there before), its last ones can come up in one order alone: one walk serves every order. Over any program. An entry put into a log, as the program does it: the walk.
-/
import Derived.Test.YtijmaplejpnggaaGreatDoorOpen
import Derived.Test.YtijmaplejpnggaaGreatDoorInf
import Derived.Test.YtijmaplejpnggaaGreatDoorEns
import Derived.Test.YtijmaplejpnggaaGreatDoorQ1
import Derived.Lib.SmallJoins
import Derived.Test.YtijmaplejpnggaaGreatDoorWd
import Derived.Test.YtijmaplejpnggaaGreatDoorQ2
namespace Go.Proofs.YtijmaplejpnggaaGreatDoor
open Go Go.RowKit Go.ChangeShapes Go.WideShapes

theorem cells33 : Tryz.prog.cellsOf 170 = 3 := by kernel_rfl
theorem cells9 : Tryz.prog.cellsOf 9 = 1 := by kernel_rfl
theorem cells3 : Tryz.prog.cellsOf 3 = 1 := by kernel_rfl
theorem entry_cells {H : Type} {enc : TypeId × Value → H} {W : World} {n : Nat} {cs : List Value} {y : DataW H × List MemPlace} (h : DataW.trod enc Tryz.prog W 0 (fun _ => true) true n 170 cs = some y) :
    ∃ (t k : Int) (d : ByteArray), cs = [.int .i64 t, .int .i64 k, .string d] ∧ d.size ≤ 9223372036854775807 := by
  obtain ⟨y0, y1, y2, m, _, hl, e0, e1, e2⟩ := Deep.trod_struct3 Tryz.underlying170 h
  rw [cells33] at hl
  obtain ⟨c0, c1, c2, rfl⟩ := len3 hl
  simp only [cells9, cells3, List.drop_zero, List.drop_succ_cons, List.take_succ_cons, List.take_zero] at e0 e1 e2
  obtain ⟨k0, g0, _, _⟩ := DataW.trod_int Tryz.underlying3 e0
  obtain ⟨k1, g1, _, _⟩ := DataW.trod_int Tryz.underlying3 e1
  obtain ⟨s2, g2, _, z2⟩ := DataW.trod_string Tryz.underlying9 e2
  simp only [List.cons.injEq, and_true] at g0 g1 g2
  subst g0 g1 g2
  exact ⟨k0, k1, s2, rfl, z2⟩
theorem open_entry {H : Type} {enc : TypeId × Value → H} {W : World} {v : Value} {d : DataW H} {p : List MemPlace} (hv : ∃ cs, v = .agg cs ∧ cs.size = Tryz.prog.cellsOf 170) (h : DataW.Trod enc Tryz.prog W 0 (fun _ => true) true 170 v d p) :
    ∃ (t k : Int) (d : ByteArray), v = .agg #[.int .i64 t, .int .i64 k, .string d] ∧ d.size ≤ 9223372036854775807 := by
  obtain ⟨cs, rfl, _⟩ := hv
  obtain ⟨fuel, hf⟩ := h
  obtain ⟨t, k, d, he, hs⟩ := entry_cells hf
  refine ⟨t, k, d, ?_, hs⟩
  have e2 : cs.toList = [.int .i64 t, .int .i64 k, .string d] := he
  congr 1
  exact Array.toList_inj.1 e2
end Go.Proofs.YtijmaplejpnggaaGreatDoor

namespace Go.Proofs.YtijmaplejpnggaaGreatDoor
open Go Go.RowKit Go.ChangeShapes Go.WideShapes

theorem cells24 : Tryz.prog.cellsOf 37 = 3 := by kernel_rfl
theorem cells22 : Tryz.prog.cellsOf 35 = 1 := by kernel_rfl
theorem open_log {H : Type} {enc : TypeId × Value → H} {W : World} {v : Value} {d : DataW H} {p : List MemPlace} (hv : ∃ cs, v = .agg cs ∧ cs.size = Tryz.prog.cellsOf 37) (h : DataW.Trod enc Tryz.prog W 0 (fun _ => true) true 37 v d p) :
    ∃ (s t : Int) (a : Option Addr) (n c : Nat) (l : List En), v = .agg #[.int .i64 s, .int .i64 t, .slice a n c] ∧ Reads W (.slice a n c) l ∧ SmallEn l ∧ n ≤ 9223372036854775807 := by
  obtain ⟨cs, rfl, _⟩ := hv
  obtain ⟨fuel, hf⟩ := h
  obtain ⟨y0, y1, y2, m, _, hl, e0, e1, e2⟩ := Deep.trod_struct3 Tryz.underlying37 hf
  rw [cells24] at hl
  obtain ⟨c0, c1, c2, hcs⟩ := len3 hl
  simp only [cells22, cells3, hcs, List.drop_zero, List.drop_succ_cons, List.take_succ_cons, List.take_zero] at e0 e1 e2
  obtain ⟨k0, g0, _, _⟩ := DataW.trod_int Tryz.underlying3 e0
  obtain ⟨k1, g1, _, _⟩ := DataW.trod_int Tryz.underlying3 e1
  simp only [List.cons.injEq, and_true] at g0 g1
  subst g0 g1
  obtain ⟨a, n, c, rfl⟩ : ∃ a n c, c2 = .slice a n c := by
    rcases Deep.open_slice Tryz.underlying35 e2 with ⟨hcs, _⟩ | ⟨b, len', cap', m, n, D, Pl, hcs, _⟩
    · simp only [List.cons.injEq, and_true] at hcs
      exact ⟨_, _, _, hcs⟩
    · simp only [List.cons.injEq, and_true] at hcs
      exact ⟨_, _, _, hcs⟩
  obtain ⟨l, hr, hG, hm⟩ := open_rows (fun f : En => f.data.size ≤ 9223372036854775807) Tryz.underlying35 cells33 (fun n cs y h => by
    obtain ⟨t, k, d, rfl, hs⟩ := entry_cells h
    exact ⟨⟨t, k, d⟩, rfl, hs⟩) e2
  refine ⟨k0, k1, a, n, c, l, ?_, hr, hG, hm⟩
  have e : cs.toList = [.int .i64 k0, .int .i64 k1, .slice a n c] := hcs
  congr 1
  exact Array.toList_inj.1 e
theorem int_max {k : Int} (h : (Lit.int .i64 k).wf = true) : k ≤ 9223372036854775807 := by
  simp only [Lit.wf, IntKind.min, IntKind.max, IntKind.signed, IntKind.bits, Bool.and_eq_true, decide_eq_true_eq, if_true] at h
  omega
end Go.Proofs.YtijmaplejpnggaaGreatDoor

namespace Go.Proofs.YtijmaplejpnggaaGreatDoor
open Go Go.RowKit

theorem l01In_b (x a b : Int) (w : World) {q : Bool} (hq : (decide (a ≤ x) && decide (x ≤ b)) = q) :
    Calls Tryz.prog 25 #[.int .i64 x, .int .i64 a, .int .i64 b] w fun e w' => e = .returned (.bool q) ∧ w' = w := by
  subst hq
  by_cases h : a ≤ x ∧ x ≤ b
  · rw [decide_eq_true h.1, decide_eq_true h.2]; exact l01In_yes x a b w h.1 h.2
  · have e : (decide (a ≤ x) && decide (x ≤ b)) = false := by
      by_cases h1 : a ≤ x
      · rw [decide_eq_false (show ¬ x ≤ b from fun h2 => h ⟨h1, h2⟩), Bool.and_false]
      · rw [decide_eq_false h1, Bool.false_and]
    rw [e]; exact l01In_no x a b w (by omega)

set_option maxRecDepth 10000 in
set_option maxHeartbeats 1000000 in
theorem specJournalOk_try (n t v s st : Int) (ao : Option Addr) (k c : Nat) (l : List En) (w : World) (hr : Reads w (.slice ao k c) l) (hk : k ≤ 1048577) (hz : SizedE l) :
    Calls Tryz.prog 40 #[jV n t v s st (.slice ao k c)] w fun e w' => e = .returned (.bool (jokB n t v s st l)) ∧ Below w.heap.size w w' := by
  have HR : Hid (Reads w (.slice ao k c) l) := hr
  have HZ : Hid (SizedE l) := hz
  have HL : Hid (l.length ≤ 1048577) := by show _ ≤ _; rw [← hr.len]; exact hk
  clear hr hz
  obtain ⟨q1, H1⟩ : ∃ q, Hid ((decide (0 ≤ n) && decide (n ≤ 999)) = q) := ⟨_, rfl⟩
  obtain ⟨q2, H2⟩ : ∃ q, Hid ((decide (0 ≤ t) && decide (t ≤ 100000)) = q) := ⟨_, rfl⟩
  obtain ⟨q3, H3⟩ : ∃ q, Hid ((decide (0 ≤ v) && decide (v ≤ 4)) = q) := ⟨_, rfl⟩
  have HB : Hid (jokB n t v s st l = (q1 && (q2 && q3) && okL s st l)) := by
    show _ = _
    unfold jokB numB hdB
    rw [H1.out, ← H3.out, ← H2.out]
    simp only [Bool.and_assoc]
  rw [HB.out]
  have C1 : Hid (∀ w, Calls Tryz.prog 25 #[.int .i64 n, .int .i64 0, .int .i64 999] w fun e w' => e = .returned (.bool q1) ∧ w' = w) := fun w => l01In_b _ _ _ w H1.out
  have C2 : Hid (∀ w, Calls Tryz.prog 25 #[.int .i64 t, .int .i64 0, .int .i64 100000] w fun e w' => e = .returned (.bool q2) ∧ w' = w) := fun w => l01In_b _ _ _ w H2.out
  have C3 : Hid (∀ w, Calls Tryz.prog 25 #[.int .i64 v, .int .i64 0, .int .i64 4] w fun e w' => e = .returned (.bool q3) ∧ w' = w) := fun w => l01In_b _ _ _ w H3.out
  cases q1 with
  | false =>
    go_enter Tryz.func40, Tryz.ntmps40
    go_wp2_with (go_at_call 25; with_reducible refine Calls.mono (C1.out _) ?_; rintro e w' ⟨rfl, hw⟩; have hw2 := hw.symm; subst hw2)
    go_ret
    exact ⟨rfl, ba (Below.refl _ _) _⟩
  | true =>
    cases q2 with
    | false =>
      go_enter Tryz.func40, Tryz.ntmps40
      go_wp2_with (first | (go_at_call 25; with_reducible refine Calls.mono (C1.out _) ?_; rintro e w' ⟨rfl, hw⟩; have hw2 := hw.symm; subst hw2) | (go_at_call 25; with_reducible refine Calls.mono (C2.out _) ?_; rintro e w' ⟨rfl, hw⟩; have hw2 := hw.symm; subst hw2))
      go_ret
      exact ⟨rfl, ba (Below.refl _ _) _⟩
    | true =>
      cases q3 with
      | false =>
        go_enter Tryz.func40, Tryz.ntmps40
        go_wp2_with (first | (go_at_call 25; with_reducible refine Calls.mono (C1.out _) ?_; rintro e w' ⟨rfl, hw⟩; have hw2 := hw.symm; subst hw2) | (go_at_call 25; with_reducible refine Calls.mono (C2.out _) ?_; rintro e w' ⟨rfl, hw⟩; have hw2 := hw.symm; subst hw2) | (go_at_call 25; with_reducible refine Calls.mono (C3.out _) ?_; rintro e w' ⟨rfl, hw⟩; have hw2 := hw.symm; subst hw2))
        go_ret
        exact ⟨rfl, ba (Below.refl _ _) _⟩
      | true =>
        go_enter Tryz.func40, Tryz.ntmps40
        go_wp2_with (first | (go_at_call 25; with_reducible refine Calls.mono (C1.out _) ?_; rintro e w' ⟨rfl, hw⟩; have hw2 := hw.symm; subst hw2) | (go_at_call 25; with_reducible refine Calls.mono (C2.out _) ?_; rintro e w' ⟨rfl, hw⟩; have hw2 := hw.symm; subst hw2) | (go_at_call 25; with_reducible refine Calls.mono (C3.out _) ?_; rintro e w' ⟨rfl, hw⟩; have hw2 := hw.symm; subst hw2) | (go_at_call 27; refine (specLogOk_any (HR.out.alloc _) HL.out HZ.out).mono ?_; rintro e w3 ⟨rfl, hb3⟩))
        go_ret
        exact ⟨rfl, below_new hb3⟩
theorem specJournalOk_any {n t v s st : Int} {w : World} {x : Value} {l : List En} (hr : Reads w x l) (hk : l.length ≤ 1048577) (hz : SizedE l) :
    Calls Tryz.prog 40 #[jV n t v s st x] w fun e w' => e = .returned (.bool (jokB n t v s st l)) ∧ Below w.heap.size w w' := by
  obtain ⟨ao, c, rfl, _⟩ := id hr
  exact specJournalOk_try n t v s st ao _ c l w hr hk hz

set_option maxHeartbeats 1000000 in
theorem szJournal_any (n t v s st : Int) (x : Value) (l : List En) (left : Int) (w : World) (hr : Reads w x l) (hs : SmallEn l) (hl : left ≤ 1048576) (h0 : 0 ≤ left) (hn : l.length ≤ 9223372036854775807) :
    Calls Tryz.prog 12 #[jV n t v s st x, .int .i64 left] w fun e w' => ∃ r : Int, e = .returned (.int .i64 r) ∧ (r = -1 ∨ 0 ≤ r ∧ r = left - l.length - sizeEn l) ∧ Below w.heap.size w w' := by
  obtain ⟨ao, cap, rfl, _⟩ := id hr
  have HR : Hid (Reads w (.slice ao l.length cap) l) := hr
  clear hr
  go_enter Tryz.func12, Tryz.ntmps12
  go_wp2_with fail
  refine (szLog_any s st _ l _ _ (HR.out.alloc _) hs hl h0 hn).mono ?_
  rintro e w2 ⟨r2, rfl, h2, hb2⟩
  rcases h2 with rfl | ⟨h2, h3⟩
  · go_wp2
    go_ret
    exact ⟨-1, rfl, .inl rfl, below_new hb2⟩
  · have H3 : Hid (r2 = left - l.length - sizeEn l) := h3
    clear h3
    go_wp2
    go_ret
    exact ⟨r2, rfl, .inr ⟨h2, H3.out⟩, below_new hb2⟩

theorem ret_jou {fn : Func} {p : Tmp} {w : World} {g : Nat} {a b c d e f : Value} {tmps : Array Value} (h : fn.results = #[.cell p 26]) (hp : tmps.getD p undef = .pointer (some ⟨g, 0, none⟩)) (h0 : w.cell? ⟨g, 0, none⟩ = some a) (h1 : w.cell? ⟨g, 1, none⟩ = some b) (h2 : w.cell? ⟨g, 2, none⟩ = some c) (h3 : w.cell? ⟨g, 3, none⟩ = some d) (h4 : w.cell? ⟨g, 4, none⟩ = some e) (h5 : w.cell? ⟨g, 5, none⟩ = some f) :
    (results fn tmps).run Tryz.prog w = .ok (.agg #[a, b, c, d, e, f]) w := by
  have hp' : tmps[p]?.getD undef = .pointer (some ⟨g, 0, none⟩) := by simpa using hp
  simp [results, h, hp', h0, h1, h2, h3, h4, h5, asAddr, go_sem]
/-- The block of a journal that is wholly there. -/
theorem cells6_new {w w' : World} {a b c d e f : Value} {t : TypeId} (hb : Below (w.alloc (.cells #[a, b, c, d, e, f] t)).heap.size (w.alloc (.cells #[a, b, c, d, e, f] t)) w') :
    w'.cell? ⟨w.heap.size, 0, none⟩ = some a ∧ w'.cell? ⟨w.heap.size, 1, none⟩ = some b ∧ w'.cell? ⟨w.heap.size, 2, none⟩ = some c ∧ w'.cell? ⟨w.heap.size, 3, none⟩ = some d ∧ w'.cell? ⟨w.heap.size, 4, none⟩ = some e ∧ w'.cell? ⟨w.heap.size, 5, none⟩ = some f :=
  ⟨(hb.cell (by simp)).trans (by simp [go_sem]), (hb.cell (by simp)).trans (by simp [go_sem]), (hb.cell (by simp)).trans (by simp [go_sem]), (hb.cell (by simp)).trans (by simp [go_sem]), (hb.cell (by simp)).trans (by simp [go_sem]), (hb.cell (by simp)).trans (by simp [go_sem])⟩
end Go.Proofs.YtijmaplejpnggaaGreatDoor

namespace Go.Proofs.YtijmaplejpnggaaGreatDoor
open Go Go.RowKit

set_option maxRecDepth 10000 in
set_option maxHeartbeats 2000000 in
theorem toJournal_any (n t v s st : Int) (x : Value) (l : List En) (w : World) (hr : Reads w x l) (hn : l.length ≤ 1048576) :
    Calls Tryz.prog 15 #[jV n t v s st x] w fun e w' => ∃ x', e = .returned (jV n t v s st x') ∧ ownsR w' w.heap.size 84 x' l ∧ Below w.heap.size w w' := by
  obtain ⟨ao, cap, rfl, _⟩ := id hr
  have HR : Hid (Reads w (.slice ao l.length cap) l) := hr
  clear hr
  go_enter Tryz.func15, Tryz.ntmps15
  go_wp2_with fail
  refine Calls.mono (toLog_any s st _ l _ (HR.out.below ?_) hn) ?_
  · exact ba (ba (ba (Below.refl _ _) _) _) _
  rintro e w2 ⟨v2, rfl, h2, hb2⟩
  obtain ⟨ao2, cap2, rfl⟩ := h2.slice
  have q0 : w2.cell? ⟨w.heap.size + 1 + 1, 0, none⟩ = some (.int .i64 n) := (hb2.cell (by simp)).trans (by simp [go_sem])
  have q1 : w2.cell? ⟨w.heap.size + 1 + 1, 1, none⟩ = some (.int .i64 t) := (hb2.cell (by simp)).trans (by simp [go_sem])
  have q2 : w2.cell? ⟨w.heap.size + 1 + 1, 2, none⟩ = some (.int .i64 v) := (hb2.cell (by simp)).trans (by simp [go_sem])
  have q3 : w2.cell? ⟨w.heap.size + 1 + 1, 3, none⟩ = some (.int .i64 0) := (hb2.cell (by simp)).trans (by simp [go_sem])
  have q4 : w2.cell? ⟨w.heap.size + 1 + 1, 4, none⟩ = some (.int .i64 0) := (hb2.cell (by simp)).trans (by simp [go_sem])
  have q5 : w2.cell? ⟨w.heap.size + 1 + 1, 5, none⟩ = some (.slice none 0 0) := (hb2.cell (by simp)).trans (by simp [go_sem])
  have z3 : w2.frozen? ⟨w.heap.size + 1 + 1, 3, none⟩ = false := (hb2.frozen (by simp)).trans (by simp [go_sem])
  have z4 : w2.frozen? ⟨w.heap.size + 1 + 1, 4, none⟩ = false := (hb2.frozen (by simp)).trans (by simp [go_sem])
  have z5 : w2.frozen? ⟨w.heap.size + 1 + 1, 5, none⟩ = false := (hb2.frozen (by simp)).trans (by simp [go_sem])
  have p0 : w2.cell? ⟨w.heap.size + 1, 0, none⟩ = some (.int .i64 0) := (hb2.cell (by simp)).trans (by simp [go_sem])
  have p1 : w2.cell? ⟨w.heap.size + 1, 1, none⟩ = some (.int .i64 0) := (hb2.cell (by simp)).trans (by simp [go_sem])
  have p2 : w2.cell? ⟨w.heap.size + 1, 2, none⟩ = some (.int .i64 0) := (hb2.cell (by simp)).trans (by simp [go_sem])
  have p3 : w2.cell? ⟨w.heap.size + 1, 3, none⟩ = some (.int .i64 0) := (hb2.cell (by simp)).trans (by simp [go_sem])
  have p4 : w2.cell? ⟨w.heap.size + 1, 4, none⟩ = some (.int .i64 0) := (hb2.cell (by simp)).trans (by simp [go_sem])
  have p5 : w2.cell? ⟨w.heap.size + 1, 5, none⟩ = some (.slice none 0 0) := (hb2.cell (by simp)).trans (by simp [go_sem])
  have y0 : w2.frozen? ⟨w.heap.size + 1, 0, none⟩ = false := (hb2.frozen (by simp)).trans (by simp [go_sem])
  have y1 : w2.frozen? ⟨w.heap.size + 1, 1, none⟩ = false := (hb2.frozen (by simp)).trans (by simp [go_sem])
  have y2 : w2.frozen? ⟨w.heap.size + 1, 2, none⟩ = false := (hb2.frozen (by simp)).trans (by simp [go_sem])
  have y3 : w2.frozen? ⟨w.heap.size + 1, 3, none⟩ = false := (hb2.frozen (by simp)).trans (by simp [go_sem])
  have y4 : w2.frozen? ⟨w.heap.size + 1, 4, none⟩ = false := (hb2.frozen (by simp)).trans (by simp [go_sem])
  have y5 : w2.frozen? ⟨w.heap.size + 1, 5, none⟩ = false := (hb2.frozen (by simp)).trans (by simp [go_sem])
  have hsz : w.heap.size + 1 + 1 < w2.heap.size := by have := hb2.size; simp at this; omega
  go_wp2
  refine bodyPost_ret (ret_jou (a := .int .i64 n) (b := .int .i64 t) (c := .int .i64 v) (d := .int .i64 s) (e := .int .i64 st) (f := .slice ao2 l.length cap2) rfl rfl (by simp [go_sem, p0]) (by simp [go_sem, p1]) (by simp [go_sem, p2]) (by simp [go_sem, p3]) (by simp [go_sem, p4]) (by simp [go_sem, p5])) rfl ⟨_, rfl, ?_, ?_⟩
  · have h3 : ownsR w2 (w.heap.size + 1 + 1 + 1) 84 (.slice ao2 l.length cap2) l := by simpa using h2
    refine ownsR.mono (B := w.heap.size + 1 + 1 + 1) ?_ (by omega)
    iterate 9 (refine ownsR.setBelow ?_ (by simp) _)
    exact h3
  · have hb3 : Below w.heap.size w w2 := by
      exact Below.trans (ba (ba (ba (Below.refl _ _) _) _) _) (hb2.mono (by simp; omega))
    iterate 9 (refine Below.setCell ?_ (by first | (simp; done) | (simp; omega)) _)
    exact hb3

set_option maxRecDepth 10000 in
set_option maxHeartbeats 1000000 in
theorem eqJournal_any (n t v s st : Int) (va vb : Value) (l : List En) (w : World) (ha : Reads w va l) (hb : Reads w vb l) (hn : l.length ≤ 1048577) :
    Calls Tryz.prog 8 #[jV n t v s st va, jV n t v s st vb] w fun e w' => e = .returned (.bool true) ∧ Below w.heap.size w w' := by
  obtain ⟨ao, c, rfl, _⟩ := id ha
  obtain ⟨bo, d, rfl, _⟩ := id hb
  have HA : Hid (Reads w (.slice ao l.length c) l) := ha
  have HB : Hid (Reads w (.slice bo l.length d) l) := hb
  clear ha hb
  go_enter Tryz.func8, Tryz.ntmps8
  go_wp2_with (go_at_call 32; refine (eqLog_any s st _ _ l _ ((HA.out.alloc _).alloc _) ((HB.out.alloc _).alloc _) hn).mono ?_; rintro e w2 ⟨rfl, hb2⟩)
  go_ret
  exact ⟨rfl, (ba (ba (Below.refl _ _) _) _).trans (hb2.mono (by simp; omega))⟩

set_option maxRecDepth 10000 in
set_option maxHeartbeats 1000000 in
theorem markJournal_any {w : World} {B : Nat} {n t v s st x : Int} {e : Value} {l : List En} (ho : ownsR w B 84 e l) (hn : l.length ≤ 1048577) (hx0 : 0 < x) (hx : x ≤ 100000000) :
    Calls Tryz.prog 9 #[jV n t v s st e, .int .i64 x] w fun r w' => r = .returned (.int .i64 (x + 3 * (l.length : Int))) ∧ ownsR w' B 84 e (marksEn x l.length) ∧ w.grownBy w' e.ownBlock := by
  obtain ⟨ao, c, rfl⟩ := ho.slice
  have HO : Hid (ownsR w B 84 (.slice ao l.length c) l) := ho
  clear ho
  go_enter Tryz.func9, Tryz.ntmps9
  go_wp2_with (go_at_call 33; refine (markLog_any (HO.out.alloc _) hn hx0 hx).mono ?_; rintro e w2 ⟨rfl, ho2, hb2⟩)
  go_ret
  exact ⟨rfl, ho2, grown_trans (World.grownBy_alloc w _ _) hb2⟩

set_option maxRecDepth 10000 in
set_option maxHeartbeats 1000000 in
theorem heldJournal_any {w : World} {n t v s st x : Int} {k : Nat} {e : Value} (hr : Reads w e (marksEn x k)) (hn : k ≤ 1048577) (hx0 : 0 < x) (hx : x ≤ 100000000) :
    Calls Tryz.prog 10 #[jV n t v s st e, .int .i64 x] w fun r w' => r = .returned (.int .i64 (x + 3 * (k : Int))) ∧ Below w.heap.size w w' := by
  obtain ⟨ao, c, rfl, _⟩ := id hr
  have HR : Hid (Reads w (.slice ao (marksEn x k).length c) (marksEn x k)) := hr
  clear hr
  go_enter Tryz.func10, Tryz.ntmps10
  go_wp2_with (go_at_call 34; refine (heldLog_any (HR.out.alloc _) hn hx0 hx).mono ?_; rintro e w2 ⟨rfl, hb2⟩)
  all_goals go_ret
  all_goals exact ⟨rfl, below_new hb2⟩

theorem cellsJ : Tryz.prog.cellsOf 39 = 6 := by kernel_rfl
theorem cellsJl : Tryz.prog.cellsOf 37 = 3 := by kernel_rfl
theorem len6 {α : Type} {l : List α} (h : l.length = 6) : ∃ a b c d e f, l = [a, b, c, d, e, f] := by
  match l, h with
  | [a, b, c, d, e, f], _ => exact ⟨a, b, c, d, e, f, rfl⟩
theorem open_journal {H : Type} {enc : TypeId × Value → H} {W : World} {v : Value} {d : DataW H} {p : List MemPlace} (hv : ∃ cs, v = .agg cs ∧ cs.size = Tryz.prog.cellsOf 39) (h : DataW.Trod enc Tryz.prog W 0 (fun _ => true) true 39 v d p) :
    ∃ (n t v' s st : Int) (a : Option Addr) (k c : Nat) (l : List En), v = jV n t v' s st (.slice a k c) ∧ Reads W (.slice a k c) l ∧ SmallEn l ∧ k ≤ 9223372036854775807 := by
  obtain ⟨cs, rfl, _⟩ := hv
  obtain ⟨fuel, hf⟩ := h
  obtain ⟨y0, y1, y2, y3, m, _, hl, e0, e1, e2, e3⟩ := Go.Joins.trod_struct4 Tryz.underlying39 hf
  rw [cellsJ] at hl
  obtain ⟨c0, c1, c2, c3, c4, c5, hcs⟩ := len6 hl
  simp only [cellsJl, cells3, hcs, List.drop_zero, List.drop_succ_cons, List.take_succ_cons, List.take_zero] at e0 e1 e2 e3
  obtain ⟨k0, g0, _, _⟩ := DataW.trod_int Tryz.underlying3 e0
  obtain ⟨k1, g1, _, _⟩ := DataW.trod_int Tryz.underlying3 e1
  obtain ⟨k2, g2, _, _⟩ := DataW.trod_int Tryz.underlying3 e2
  simp only [List.cons.injEq, and_true] at g0 g1 g2
  subst g0 g1 g2
  obtain ⟨s, st, a, k, c, l, hv, hr, hS, hk⟩ := open_log (v := .agg #[c3, c4, c5]) (d := y3.1) (p := y3.2) ⟨#[c3, c4, c5], rfl, by rw [cellsJl]; rfl⟩ ⟨m, e3⟩
  simp only [Value.agg.injEq] at hv
  have hv2 := congrArg Array.toList hv
  simp only [List.cons.injEq, and_true] at hv2
  obtain ⟨rfl, rfl, rfl⟩ := hv2
  refine ⟨k0, k1, k2, s, st, a, k, c, l, ?_, hr, hS, hk⟩
  have e : cs.toList = [.int .i64 k0, .int .i64 k1, .int .i64 k2, .int .i64 s, .int .i64 st, .slice a k c] := hcs
  show Value.agg cs = Value.agg _
  congr 1
  exact Array.toList_inj.1 e
end Go.Proofs.YtijmaplejpnggaaGreatDoor

namespace Go.Proofs.YtijmaplejpnggaaGreatDoor
open Go Go.RowKit

section
variable {P : Program} {ops : Array Oper} {md : Region.Mode} {C : World → Prop}

/-- Whatever order is picked, as long as 'fuel' operations come up; then all that are listed are L, and R. -/
def wpAnyT (P : Program) (md : Region.Mode) (ops : Array Oper) (C : World → Prop) (L : Array Bool) (R : Act → Prop) : Nat → Array Bool → Act → Prop
  | 0, listed, a => listed = L ∧ R a
  | fuel + 1, listed, a => Region.ready md ops listed ≠ [] ∧ ∀ i ∈ Region.ready md ops listed, qOp P ops C i (wpAnyT P md ops C L R fuel (listed.setIfInBounds i true)) a

theorem wpAnyT_first {R : Act → Prop} {L : Array Bool} {m i : Nat} {oi : Oper} {v : Value} (hi : ops[i]? = some oi) (hsel : ∀ (j : Nat) (o : Oper) cs b, ops[j]? = some o → o.op ≠ .select cs b)
    (hL : ∀ j ∈ Region.ready md ops L, j = m) (hwait : ∀ om, ops[m]? = some om → ∃ e ∈ om.after, Region.binds md e = true ∧ e.on = i) :
    ∀ (fuel : Nat) (listed : Array Bool) (a : Act),
      (∀ j oj, ops[j]? = some oj → j ≠ i → listed.getD j true = false → (∀ e ∈ oj.after, Region.binds md e = true → e.on ≠ i) → oi.apart ops oj = true) →
      i ∈ Region.ready md ops listed → YieldsIn P ops C oi v a →
      wpAnyT P md ops C L R fuel (listed.setIfInBounds i true) (a.put oi.dst v) → wpAnyT P md ops C L R (fuel + 1) listed a := by
  intro fuel
  induction fuel with
  | zero =>
    intro listed a _ hr hy H
    refine ⟨fun h => (by rw [h] at hr; cases hr), fun j hj => ?_⟩
    by_cases hji : j = i
    · subst hji; exact hy.qOp hi H
    · have h1 := ready_mono hj hji
      rw [H.1] at h1
      have hjm := hL j h1
      subst hjm
      obtain ⟨hjun, oj, hoj, hall⟩ := mem_ready.1 hj
      obtain ⟨e, he, hb, heq⟩ := hwait oj hoj
      have h2 := hall e he hb
      have h0 := (mem_ready.1 hr).1
      rw [heq] at h2
      rcases Nat.lt_or_ge i listed.size with h' | h'
      · simp [h'] at h0 h2; rw [h0] at h2; cases h2
      · simp [Array.getElem?_eq_none h'] at h2
  | succ fuel ih =>
    intro listed a hfree hr hy H
    refine ⟨fun h => (by rw [h] at hr; cases hr), fun j hj => ?_⟩
    by_cases hji : j = i
    · subst hji; exact hy.qOp hi H
    · have h1 := H.2 j (ready_mono hj hji)
      obtain ⟨hjun, oj, hoj, hall⟩ := mem_ready.1 hj
      have hnot : ∀ e ∈ oj.after, Region.binds md e = true → e.on ≠ i := fun e he hb heq => by
        have h1 := hall e he hb
        have h0 := (mem_ready.1 hr).1
        rw [heq] at h1
        rcases Nat.lt_or_ge i listed.size with h' | h'
        · simp [h'] at h0 h1; rw [h0] at h1; cases h1
        · simp [Array.getElem?_eq_none h'] at h1
      have h2 := qOp_put hoj (hfree j oj hoj hji hjun hnot) (fun cs b => hsel i oi cs b hi) (fun cs b => hsel j oj cs b hoj) hy h1
      have hfree' : ∀ k ok, ops[k]? = some ok → k ≠ i → (listed.setIfInBounds j true).getD k true = false →
          (∀ e ∈ ok.after, Region.binds md e = true → e.on ≠ i) → oi.apart ops ok = true := fun k ok hk hki hun hno => by
        refine hfree k ok hk hki ?_ hno
        by_cases hjk : j = k
        · subst hjk; exact hjun
        · rw [getD_set_ne true hjk] at hun; exact hun
      refine qOp_mono (fun a' h3 => ih (listed.setIfInBounds j true) a' hfree' (ready_mono hr (Ne.symm hji)) h3.1 ?_) h2
      rw [Array.setIfInBounds_comm _ _ hji]
      exact h3.2

/-- The first operations in the order of the text: each may come up, and is free; behind them the listing is L. -/
def lexTo (md : Region.Mode) (ops : Array Oper) (L : Array Bool) : Nat → Nat → Array Bool → Bool
  | 0, _, listed => decide (listed = L)
  | fuel + 1, k, listed => (Region.ready md ops listed).contains k && Region.free md ops listed k && lexTo md ops L fuel (k + 1) (listed.setIfInBounds k true)
/-- Operation m waits for each of the first ones. -/
def waitsAll (md : Region.Mode) (ops : Array Oper) (m : Nat) : Bool :=
  (List.range m).all fun i => match ops[m]? with
    | none => true
    | some om => om.after.any fun e => Region.binds md e && e.on == i

theorem wpAnyT_lex {R : Act → Prop} {L : Array Bool} {m : Nat} (hs : Region.noSelect ops = true) (hL : ∀ j ∈ Region.ready md ops L, j = m) (hw : waitsAll md ops m = true) : ∀ (l : List Oper) (k : Nat) (listed : Array Bool) (a : Act), k + l.length = m → (∀ j, j < l.length → l[j]? = ops[k + j]?) →
    lexTo md ops L l.length k listed = true → wpQuiet P ops C R l a → wpAnyT P md ops C L R l.length listed a
  | [], _, _, _, _, _, hB, h => ⟨by simpa [lexTo] using hB, h⟩
  | o :: l, k, listed, a, hk, hl, hB, h => by
    have h0 : ops[k]? = some o := by simpa using (hl 0 (by simp)).symm
    simp only [List.length_cons, lexTo, Bool.and_eq_true] at hB
    obtain ⟨⟨hr, hf⟩, hB'⟩ := hB
    have hst : qOp P ops C k (wpQuiet P ops C R l) a := by unfold qOp; simp only [h0]; exact h
    obtain ⟨v, hy, hK⟩ := yieldsIn_of_qOp h0 hst
    refine wpAnyT_first h0 (Region.noSelect_spec hs) hL (fun om hom => ?_) l.length listed a (Region.free_spec h0 hf) (by simpa using hr) hy
      (wpAnyT_lex hs hL hw l (k + 1) _ _ (by simp at hk; omega) (fun j hj => by have := hl (j + 1) (by simpa using hj); simpa [Nat.add_assoc, Nat.add_comm 1 j] using this) hB' hK)
    unfold waitsAll at hw
    rw [List.all_eq_true] at hw
    have := hw k (List.mem_range.2 (by simp at hk; omega))
    rw [hom] at this
    simp only [Array.any_eq_true', Bool.and_eq_true, beq_iff_eq] at this
    obtain ⟨e, he, hb, heq⟩ := this
    exact ⟨e, he, hb, heq⟩

theorem wpAny_of_T {R : Act → Prop} {L : Array Bool} {Q' : Exit → Act → World → Prop} {f : Nat} (hR : ∀ a w, C w → R a → wpAny P md ops Q' f L a w) : ∀ (fuel : Nat) (listed : Array Bool) (a : Act) (w : World), C w →
    wpAnyT P md ops C L R fuel listed a → wpAny P md ops Q' (f + fuel) listed a w
  | 0, _, _, _, hw, h => by obtain ⟨rfl, h⟩ := h; exact hR _ _ hw h
  | fuel + 1, _, _, _, hw, h => ⟨fun h0 => absurd h0 h.1, fun i hi => wpOp_of_qOp hw (fun a' w' hw' => wpAny_of_T hR fuel _ a' w' hw') (h.2 i hi)⟩

/-- The last operations can come up in one order alone. -/
def forcedB (md : Region.Mode) (ops : Array Oper) : Nat → Nat → Array Bool → Bool
  | 0, _, listed => decide (Region.ready md ops listed = [])
  | fuel + 1, k, listed => decide (Region.ready md ops listed = [k]) && forcedB md ops fuel (k + 1) (listed.setIfInBounds k true)

theorem wpAny_forced {Q : Exit → Act → World → Prop} : ∀ (l : List Oper) (k : Nat) (listed : Array Bool) (a : Act) (w : World), (∀ j, j < l.length → l[j]? = ops[k + j]?) →
    forcedB md ops l.length k listed = true → wpList P ops Q l a w → wpAny P md ops Q l.length listed a w
  | [], _, _, _, _, _, hB, h => ⟨by simpa [forcedB] using hB, h⟩
  | o :: l, k, listed, a, w, hl, hB, h => by
    have h0 : ops[k]? = some o := by simpa using (hl 0 (by simp)).symm
    simp only [List.length_cons, forcedB, Bool.and_eq_true, decide_eq_true_eq] at hB
    refine wpAny_all hB.1 (by simp) fun i hi => ?_
    simp only [List.mem_singleton] at hi
    subst hi
    have h1 : wpOp P ops Q i (wpList P ops Q l) a w := by unfold wpOp; simp only [h0]; exact h
    exact wpOp_mono (fun a' w' h' => wpAny_forced l (i + 1) _ a' w' (fun j hj => by have := hl (j + 1) (by simpa using hj); simpa [Nat.add_assoc, Nat.add_comm 1 j] using this) hB.2 h') h1

/-- The kernel's look at a region that is parted behind its first m operations. -/
def tailB (md : Region.Mode) (ops : Array Oper) (m : Nat) : Bool :=
  let L := (Array.range ops.size).map fun i => decide (i < m)
  Region.noSelect ops && (Region.ready md ops L).all (· == m) && waitsAll md ops m && lexTo md ops L m 0 (Array.replicate ops.size false) && forcedB md ops (ops.size - m) m L

theorem wp_region_tail {id : Nat} {Q : Exit → Act → World → Prop} {a : Act} {w : World} {l : List Oper} (m : Nat) (hm : P.follows .mixedOrders = true) (hml : m ≤ l.length) (hB : tailB .any l.toArray m = true)
    (h : wpQuiet P l.toArray (fun w' => ∃ x : Wd w, w' = x.at') (fun a' => ∀ w', (∃ x : Wd w, w' = x.at') → wpList P l.toArray Q (l.drop m) a' w') (l.take m) a) : (Code.region id l.toArray true).wp P Q a w := by
  simp only [tailB, Bool.and_eq_true] at hB
  obtain ⟨⟨⟨⟨h1, h2⟩, h3⟩, h4⟩, h5⟩ := hB
  refine wp_region_any hm ?_
  have hlen : (l.take m).length = m := by simp; omega
  have hdrop : (l.drop m).length = l.length - m := by simp
  have hT := wpAnyT_lex (P := P) (C := fun w' => ∃ x : Wd w, w' = x.at') (md := .any) h1 (fun j hj => by
    rw [List.all_eq_true] at h2
    simpa using h2 j hj) h3 (l.take m) 0 (Array.replicate l.toArray.size false) a (by omega) (fun j hj => by
      rw [List.getElem?_take]
      have : j < m := by omega
      simp [this]) (by rw [hlen]; exact h4) h
  have := wpAny_of_T (Q' := Q) (f := (l.drop m).length) (fun a' w' hw' hR => wpAny_forced (md := .any) (l.drop m) m _ a' w' (fun j hj => by simp) (by rw [hdrop]; simpa using h5) (hR w' hw')) (l.take m).length _ a { w with drawn := w.drawn + 1 } ⟨⟨_, (Below.refl _ w).drew⟩, rfl⟩ hT
  have e : (l.drop m).length + (l.take m).length = l.toArray.size := by simp; omega
  rw [e] at this
  exact this
end
end Go.Proofs.YtijmaplejpnggaaGreatDoor

namespace Go.Proofs.YtijmaplejpnggaaGreatDoor
open Go Go.RowKit

set_option maxRecDepth 10000 in
set_option maxHeartbeats 4000000 in
theorem logPut_try (s t i tm kd : Int) (d : ByteArray) (ao : Option Addr) (n c : Nat) (l : List En) (w : World) (hr : Reads w (.slice ao n c) l) (hc : n ≤ c) (hn : n ≤ 1048576) (hz : SizedE l) (hd : d.size ≤ 1048576) :
    Calls Tryz.prog 102 #[.agg #[.int .i64 s, .int .i64 t, .slice ao n c], .int .i64 i, .agg #[.int .i64 tm, .int .i64 kd, .string d]] w fun e w' => ∃ v, e = .returned (.tuple #[.agg #[.int .i64 (putS s t l i ⟨tm, kd, d⟩), .int .i64 (putT s t l i ⟨tm, kd, d⟩), v], .bool (putB s t l i ⟨tm, kd, d⟩)]) ∧ ownsR w' w.heap.size 84 v (putE s t l i ⟨tm, kd, d⟩) ∧ Below w.heap.size w w' := by
  have HR : Hid (Reads w (.slice ao n c) l) := hr
  have HN : Hid (n = l.length) := hr.len
  have HZ : Hid (SizedE l) := hz
  have HD : Hid (d.size ≤ 1048576) := hd
  clear hr hz hd
  obtain ⟨f, HF⟩ : ∃ f : En, Hid (f = ⟨tm, kd, d⟩) := ⟨_, rfl⟩
  rw [← HF.out]
  obtain ⟨q, HQ⟩ : ∃ q, Hid (okL s t l = q) := ⟨_, rfl⟩
  obtain ⟨b, HB⟩ : ∃ b, Hid (putB s t l i f = b) := ⟨_, rfl⟩
  rw [HB.out]
  go_enter Tryz.func102, Tryz.ntmps102
  go_wp2_with fail
  have L0 := p3_new w s t tm kd d (.slice ao n c)
  obtain ⟨W, hW⟩ : ∃ W, ((w.alloc (Obj.cells #[.int .i64 s, .int .i64 t, .slice ao n c] 24)).alloc (Obj.cells #[.int .i64 tm, .int .i64 kd, .string d] 84)).alloc (Obj.cells #[.int .i64 0, .int .i64 0, .slice none 0 0] 24) = W := ⟨_, rfl⟩
  rw [hW] at L0 ⊢
  clear hW
  obtain ⟨li, HLI⟩ : ∃ x, Hid (lastI s l = x) := ⟨_, rfl⟩
  refine (logLast_any (HR.out.below L0.bel) (by rw [← HN.out]; omega)).mono ?_
  rintro e w1 ⟨rfl, hb1⟩
  rw [HLI.out]
  have L1 := L0.up hb1
  clear hb1 L0
  have a0 := L1.a0
  have a1 := L1.a1
  have a2 := L1.a2
  go_wp2_with fail
  refine (logOk_any (HR.out.below L1.bel) (by rw [← HN.out]; omega) HZ.out).mono ?_
  rintro e w2 ⟨rfl, hb2⟩
  rw [HQ.out]
  have L2 := L1.up hb2
  clear hb2 L1 a0 a1 a2
  cases q with
  | false =>
    have HF2 : Hid (putB s t l i f = false) := by show putB s t l i f = false; unfold putB; rw [HQ.out]; rfl
    have hb0 : b = false := HB.out.symm.trans HF2.out
    subst hb0
    have r0 := L2.r0
    have r1 := L2.r1
    have r2 := L2.r2
    have f0 := L2.f0
    have f1 := L2.f1
    have f2 := L2.f2
    go_wp2
    refine bodyPost_ret (ret_log2 (a := .int .i64 0) (b := .int .i64 0) (c := .slice none 0 0) (x := .bool false) rfl rfl rfl (by simp [go_sem, r0]) (by simp [go_sem, r1]) (by simp [go_sem, r2])) rfl ⟨.slice none 0 0, by unfold putS putT; rw [HF2.out]; rfl, ?_, ?_⟩
    · unfold putE; rw [HF2.out]
      exact ownsR_nil _ _ _
    · refine Below.setCell (Below.setCell (Below.setCell L2.bel ?_ _) ?_ _) ?_ _ <;> simp <;> omega
  | true =>
    obtain ⟨h0, h1, h2, h3, h4, h5, -⟩ := okL_all HQ.out
    have hli : li = s + n := by rw [← HLI.out, lastI_in h0 h1 h4, HN.out]
    rw [← HN.out] at h4 h5
    subst hli
    by_cases hi0 : i ≤ s
    · have HF2 : Hid (putB s t l i f = false) := by
        show putB s t l i f = false; unfold putB inP; rw [decide_eq_false (p := s + 1 ≤ i) (by omega)]; simp
      have hb0 : b = false := HB.out.symm.trans HF2.out
      subst hb0
      have a0 := L2.a0
      have r0 := L2.r0
      have r1 := L2.r1
      have r2 := L2.r2
      have f0 := L2.f0
      have f1 := L2.f1
      have f2 := L2.f2
      go_wp2
      refine bodyPost_ret (ret_log2 (a := .int .i64 0) (b := .int .i64 0) (c := .slice none 0 0) (x := .bool false) rfl rfl rfl (by simp [go_sem, r0]) (by simp [go_sem, r1]) (by simp [go_sem, r2])) rfl ⟨.slice none 0 0, by unfold putS putT; rw [HF2.out]; rfl, ?_, ?_⟩
      · unfold putE; rw [HF2.out]
        exact ownsR_nil _ _ _
      · refine Below.setCell (Below.setCell (Below.setCell L2.bel ?_ _) ?_ _) ?_ _ <;> simp <;> omega
    by_cases hi1 : s + n + 1 < i
    · have HF2 : Hid (putB s t l i f = false) := by
        show putB s t l i f = false; unfold putB inP; rw [← HN.out, decide_eq_false (p := i ≤ s + n + 1) (by omega)]; simp
      have hb0 : b = false := HB.out.symm.trans HF2.out
      subst hb0
      have a0 := L2.a0
      have r0 := L2.r0
      have r1 := L2.r1
      have r2 := L2.r2
      have f0 := L2.f0
      have f1 := L2.f1
      have f2 := L2.f2
      go_wp2
      refine bodyPost_ret (ret_log2 (a := .int .i64 0) (b := .int .i64 0) (c := .slice none 0 0) (x := .bool false) rfl rfl rfl (by simp [go_sem, r0]) (by simp [go_sem, r1]) (by simp [go_sem, r2])) rfl ⟨.slice none 0 0, by unfold putS putT; rw [HF2.out]; rfl, ?_, ?_⟩
      · unfold putE; rw [HF2.out]
        exact ownsR_nil _ _ _
      · refine Below.setCell (Below.setCell (Below.setCell L2.bel ?_ _) ?_ _) ?_ _ <;> simp <;> omega
    obtain ⟨k, hk⟩ : ∃ k : Nat, i = s + k + 1 := ⟨(i - s - 1).toNat, by omega⟩
    have hkn : k ≤ n := by omega
    have HP : Hid (putsL s l i f = l.take k ++ [f]) := by show _ = _; unfold putsL; rw [show (i - s - 1).toNat = k by omega]
    obtain ⟨D, HDD⟩ : ∃ D, Hid (D = l.take k) := ⟨_, rfl⟩
    have hDl : D.length = k := by rw [HDD.out]; simp; have := HN.out; omega
    have HIN : Hid (inP s l.length i = true) := by show _ = true; unfold inP; rw [← HN.out]; simp; omega
    have HZD : Hid (SizedE D) := fun g hg => HZ.out g (List.mem_of_mem_take (by rw [← HDD.out]; exact hg))
    subst hk
    have e1 : s + (k : Int) + 1 - s = (k : Int) + 1 := by omega
    have a0 := L2.a0
    have a1 := L2.a1
    have a2 := L2.a2
    go_wp2
    obtain ⟨WP, hWP⟩ : ∃ WP, w2.alloc (Obj.cells #[.int .i64 s, .int .i64 t, .slice none 0 0] 24) = WP := ⟨_, rfl⟩
    have hWs : WP.heap.size = w2.heap.size + 1 := by rw [← hWP]; simp
    have hbW : Below w2.heap.size w2 WP := by rw [← hWP]; exact ba (Below.refl _ _) _
    have x0 : WP.cell? ⟨w2.heap.size, 0, none⟩ = some (.int .i64 s) := by rw [← hWP]; simp [go_sem]
    have x1 : WP.cell? ⟨w2.heap.size, 1, none⟩ = some (.int .i64 t) := by rw [← hWP]; simp [go_sem]
    have x2 : WP.cell? ⟨w2.heap.size, 2, none⟩ = some (.slice none 0 0) := by rw [← hWP]; simp [go_sem]
    have y2 : WP.frozen? ⟨w2.heap.size, 2, none⟩ = false := by rw [← hWP]; simp [go_sem]
    rw [hWP]
    clear hWP a0 a1 a2
    have hs3 := L2.size
    have L3 := L2.up hbW
    have A2 := Below.cellOf (B := w2.heap.size) (W := WP) (p := ⟨w.heap.size, 2, none⟩) (v := .slice ao n c) (by simp; omega) L3.a2
    have E0 := Below.cellOf (B := w2.heap.size) (W := WP) (p := ⟨w.heap.size + 1, 0, none⟩) (v := .int .i64 tm) (by simp; omega) L3.e0
    have E1 := Below.cellOf (B := w2.heap.size) (W := WP) (p := ⟨w.heap.size + 1, 1, none⟩) (v := .int .i64 kd) (by simp; omega) L3.e1
    have E2 := Below.cellOf (B := w2.heap.size) (W := WP) (p := ⟨w.heap.size + 1, 2, none⟩) (v := .string d) (by simp; omega) L3.e2
    have HRD : Hid (∀ x, Below w2.heap.size WP x → Reads x (.slice ao k k) D) := fun x hx => by
      rw [HDD.out]; exact (HR.out.below (L3.below hx (by omega)).bel).take k hkn k
    have hk9 : k ≤ 1048576 := by omega
    have hD1 : D.length + [f].length ≤ 1048577 := by simp; omega
    have i1 : (0 : Int) ≤ (k : Int) := by omega
    have i2 : (k : Int) ≤ (c : Int) := by omega
    have HEF : Hid (∀ x : World, Reads (x.alloc (.cells #[.int .i64 tm, .int .i64 kd, .string d] 84)) (.slice (some ⟨x.heap.size, 0, none⟩) 1 1) [f]) := fun x => by rw [HF.out]; exact reads_built x ⟨tm, kd, d⟩
    go_region_held3 (fun w' => Below w2.heap.size WP w') ((first | exact (Below.refl _ _).drew | exact hSa | exact hSb | exact Below.alloc hSb (by have := hSb.size; omega) _ | exact hS5 | exact Below.setCell hS5 (by simp) _)) ((first | (go_at_call 132; refine (moved_try ao k k D _ (HRD.out _ (by assumption)) hk9 HZD.out).mono ?_; rintro e wa ⟨va, rfl, hoa, hba⟩; obtain ⟨a1, n1, c1, rfl⟩ := hoa.slice3; have hSa := keep_on (B := w2.heap.size) (W := WP) hba (by assumption) (by omega); have q0 : wa.cell? ⟨w2.heap.size, 0, none⟩ = some (.int .i64 s) := cell_on (B := w2.heap.size) (W := WP) hba (by assumption) (by simp [hWs]) (by first | assumption | exact x0); have q1 : wa.cell? ⟨w2.heap.size, 1, none⟩ = some (.int .i64 t) := cell_on (B := w2.heap.size) (W := WP) hba (by assumption) (by simp [hWs]) (by first | assumption | exact x1); have q2 : wa.cell? ⟨w2.heap.size, 2, none⟩ = some (.slice none 0 0) := cell_on (B := w2.heap.size) (W := WP) hba (by assumption) (by simp [hWs]) (by first | assumption | exact x2); have z2 : wa.frozen? ⟨w2.heap.size, 2, none⟩ = false := frozen_on (B := w2.heap.size) (W := WP) hba (by assumption) (by simp [hWs]) (by first | assumption | exact y2)) | (go_at_call 133; refine (cloned_any _ _ _ _ HD.out).mono ?_; rintro e wb ⟨rfl, hbb⟩; have hSb := keep_on (B := w2.heap.size) (W := WP) hbb hSa (by omega); have hob := hoa.all hbb; have u0 : wb.cell? ⟨w2.heap.size, 0, none⟩ = some (.int .i64 s) := cell_on (B := w2.heap.size) (W := WP) hbb hSa (by simp [hWs]) q0; have u1 : wb.cell? ⟨w2.heap.size, 1, none⟩ = some (.int .i64 t) := cell_on (B := w2.heap.size) (W := WP) hbb hSa (by simp [hWs]) q1; have u2 : wb.cell? ⟨w2.heap.size, 2, none⟩ = some (.slice none 0 0) := cell_on (B := w2.heap.size) (W := WP) hbb hSa (by simp [hWs]) q2; have v2 : wb.frozen? ⟨w2.heap.size, 2, none⟩ = false := frozen_on (B := w2.heap.size) (W := WP) hbb hSa (by simp [hWs]) z2) | (refine step_append_recs rfl (.tmp 48) (.tmp 51) 22 rfl WP.heap.size 84 _ 32 underEn infoEn rfl _ (.slice (some ⟨wb.heap.size, 0, none⟩) 1 1) D [f] (by rfl) (by rfl) (hob.alloc _) (HEF.out wb) (en_one _) hD1 (by decide) (by have := hSb.size; simp; omega) ?_; intro v5 w5 ho5 hg5; obtain ⟨a5, n5, c5, rfl⟩ := ho5.slice3; have hS5 : Below w2.heap.size WP w5 := Below.grown (Below.alloc hSb (by have := hSb.size; omega) _) hg5 (by have := hSb.size; simp; omega) (fun k hk => by have := (hob.lt k hk).1; simp at this; omega); have t0 := cell_other (cell_up (ba (Below.refl _ _) _) u0) hg5 (cell_apart x0 hob); have t1 := cell_other (cell_up (ba (Below.refl _ _) _) u1) hg5 (cell_apart x1 hob); have t2 := cell_other (cell_up (ba (Below.refl _ _) _) u2) hg5 (cell_apart x2 hob); have o2 := frozen_other (cell_up (ba (Below.refl _ _) _) u2) (frozen_up (ba (Below.refl _ _) _) u2 v2) hg5 (cell_apart x2 hob))))
    have HS6 : Hid (Below w2.heap.size WP (w5.setCell ⟨w2.heap.size, 2, none⟩ (.slice a5 n5 c5))) := Below.setCell hS5 (by simp) _
    have HO6 : Hid (ownsR (w5.setCell ⟨w2.heap.size, 2, none⟩ (.slice a5 n5 c5)) WP.heap.size 84 (.slice a5 n5 c5) (D ++ [f])) := ho5.setBelow (by simp; omega) _
    have p0 : (w5.setCell ⟨w2.heap.size, 2, none⟩ (.slice a5 n5 c5)).cell? ⟨w2.heap.size, 0, none⟩ = some (.int .i64 s) := by simp [go_sem, t0]
    have p1 : (w5.setCell ⟨w2.heap.size, 2, none⟩ (.slice a5 n5 c5)).cell? ⟨w2.heap.size, 1, none⟩ = some (.int .i64 t) := by simp [go_sem, t1]
    have p2 : (w5.setCell ⟨w2.heap.size, 2, none⟩ (.slice a5 n5 c5)).cell? ⟨w2.heap.size, 2, none⟩ = some (.slice a5 n5 c5) := World.cell?_setCell_same' _ _ _ (by rw [t2]; rfl)
    obtain ⟨w6, h6⟩ : ∃ w6, w5.setCell ⟨w2.heap.size, 2, none⟩ (.slice a5 n5 c5) = w6 := ⟨_, rfl⟩
    rw [h6] at HS6 HO6 p0 p1 p2 ⊢
    have L6 : P3 w w6 s t tm kd d (.slice ao n c) := L3.below HS6.out (by omega)
    have HBt : Hid (okL s t (D ++ [f]) = b) := by
      show _ = b
      rw [← HB.out]; unfold putB; rw [HQ.out, HIN.out, HP.out, HDD.out]; rfl
    have hlen6 : (D ++ [f]).length ≤ 1048577 := by simp; omega
    have HZ6 : Hid (SizedE (D ++ [f])) := fun g hg => by
      rcases List.mem_append.1 hg with h | h
      · exact HZD.out g h
      · rw [List.mem_singleton.1 h, HF.out]; exact HD.out
    have HSZ : Hid (w2.heap.size + 1 ≤ w6.heap.size) := by show _ ≤ _; have := HS6.out.size; omega
    clear h6 t0 t1 t2 o2 ho5 hg5 hS5 hob hSb hSa hoa hbb hba A2 E2 HRD q0 q1 q2 z2 v2 HEF
    go_wp2_with fail
    refine (logOk_any (ownsR.reads HO6.out) hlen6 HZ6.out).mono ?_
    rintro e w7 ⟨rfl, hb7⟩
    rw [HBt.out]
    have L7 := L6.up hb7
    have u0 := cell_up hb7 p0
    have u1 := cell_up hb7 p1
    have u2 := cell_up hb7 p2
    have HO7 : Hid (ownsR w7 WP.heap.size 84 (.slice a5 n5 c5) (D ++ [f])) := HO6.out.all hb7
    clear hb7 L6 p0 p1 p2
    cases b with
    | false =>
      have r0 := L7.r0
      have r1 := L7.r1
      have r2 := L7.r2
      have f0 := L7.f0
      have f1 := L7.f1
      have f2 := L7.f2
      go_wp2
      refine bodyPost_ret (ret_log2 (a := .int .i64 0) (b := .int .i64 0) (c := .slice none 0 0) (x := .bool false) rfl rfl rfl (by simp [go_sem, r0]) (by simp [go_sem, r1]) (by simp [go_sem, r2])) rfl ⟨.slice none 0 0, by unfold putS putT; rw [HB.out]; rfl, ?_, ?_⟩
      · unfold putE; rw [HB.out]
        exact ownsR_nil _ _ _
      · refine Below.setCell (Below.setCell (Below.setCell L7.bel ?_ _) ?_ _) ?_ _ <;> simp <;> omega
    | true =>
      have hs7 := L7.size
      have r0 := L7.r0
      have r1 := L7.r1
      have r2 := L7.r2
      have f0 := L7.f0
      have f1 := L7.f1
      have f2 := L7.f2
      go_wp2
      refine bodyPost_ret (ret_log2 (a := .int .i64 s) (b := .int .i64 t) (c := .slice a5 n5 c5) (x := .bool true) rfl rfl rfl (by simp [go_sem, r0]) (by simp [go_sem, r1]) (by simp [go_sem, r2])) rfl ⟨.slice a5 n5 c5, by unfold putS putT; rw [HB.out]; rfl, ?_, ?_⟩
      · unfold putE; rw [HB.out, if_pos rfl, HP.out, ← HDD.out]
        refine ownsR.mono (ownsR.setBelow (ownsR.setBelow (ownsR.setBelow HO7.out ?_ _) ?_ _) ?_ _) ?_ <;> (try simp) <;> omega
      · refine Below.setCell (Below.setCell (Below.setCell L7.bel ?_ _) ?_ _) ?_ _ <;> simp <;> omega
end Go.Proofs.YtijmaplejpnggaaGreatDoor
