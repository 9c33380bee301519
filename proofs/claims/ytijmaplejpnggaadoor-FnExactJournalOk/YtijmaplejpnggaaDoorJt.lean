/-
  Journals: the law's helpers on them (copies, held against each other, marked): the walks; a journal that came in.
-/
import Derived.Test.YtijmaplejpnggaaDoorJh
import Derived.Lib.SmallJoins
namespace Go.Proofs.YtijmaplejpnggaaDoor
open Go Go.RowKit

set_option maxRecDepth 10000 in
set_option maxHeartbeats 2000000 in
theorem toJournal_any (n t v s st : Int) (x : Value) (l : List En) (w : World) (hr : Reads w x l) (hn : l.length ≤ 1048576) :
    Calls Tryd.prog 22 #[jV n t v s st x] w fun e w' => ∃ x', e = .returned (jV n t v s st x') ∧ ownsR w' w.heap.size 94 x' l ∧ Below w.heap.size w w' := by
  obtain ⟨ao, cap, rfl, _⟩ := id hr
  have HR : Hid (Reads w (.slice ao l.length cap) l) := hr
  clear hr
  go_enter Tryd.func22, Tryd.ntmps22
  go_wp2_with fail
  refine Calls.mono (toLog_any s st _ l _ (HR.out.below ?_) hn) ?_
  · exact ba (ba (ba (Below.refl _ _) _) _) _
  rintro e w2 ⟨v2, rfl, h2, hb2⟩
  obtain ⟨ao2, cap2, rfl⟩ := h2.slice
  have q0 : w2.cell? ⟨w.heap.size + 1 + 1, 0, none⟩ = some (.int .i64 n) := (hb2.cell (by simp)).trans (by simp [go_sem])
  have q1 : w2.cell? ⟨w.heap.size + 1 + 1, 1, none⟩ = some (.int .i64 t) := (hb2.cell (by simp)).trans (by simp [go_sem])
  have q2 : w2.cell? ⟨w.heap.size + 1 + 1, 2, none⟩ = some (.int .i64 v) := (hb2.cell (by simp)).trans (by simp [go_sem])
  have q3 : w2.cell? ⟨w.heap.size + 1 + 1, 3, none⟩ = some (.int .i64 0) := (hb2.cell (by simp)).trans (by simp [go_sem])
  have q4 : w2.cell? ⟨w.heap.size + 1 + 1, 4, none⟩ = some (.int .i64 0) := (hb2.cell (by simp)).trans (by simp [go_sem])
  have q5 : w2.cell? ⟨w.heap.size + 1 + 1, 5, none⟩ = some (.slice none 0 0) := (hb2.cell (by simp)).trans (by simp [go_sem])
  have z3 : w2.frozen? ⟨w.heap.size + 1 + 1, 3, none⟩ = false := (hb2.frozen (by simp)).trans (by simp [go_sem])
  have z4 : w2.frozen? ⟨w.heap.size + 1 + 1, 4, none⟩ = false := (hb2.frozen (by simp)).trans (by simp [go_sem])
  have z5 : w2.frozen? ⟨w.heap.size + 1 + 1, 5, none⟩ = false := (hb2.frozen (by simp)).trans (by simp [go_sem])
  have p0 : w2.cell? ⟨w.heap.size + 1, 0, none⟩ = some (.int .i64 0) := (hb2.cell (by simp)).trans (by simp [go_sem])
  have p1 : w2.cell? ⟨w.heap.size + 1, 1, none⟩ = some (.int .i64 0) := (hb2.cell (by simp)).trans (by simp [go_sem])
  have p2 : w2.cell? ⟨w.heap.size + 1, 2, none⟩ = some (.int .i64 0) := (hb2.cell (by simp)).trans (by simp [go_sem])
  have p3 : w2.cell? ⟨w.heap.size + 1, 3, none⟩ = some (.int .i64 0) := (hb2.cell (by simp)).trans (by simp [go_sem])
  have p4 : w2.cell? ⟨w.heap.size + 1, 4, none⟩ = some (.int .i64 0) := (hb2.cell (by simp)).trans (by simp [go_sem])
  have p5 : w2.cell? ⟨w.heap.size + 1, 5, none⟩ = some (.slice none 0 0) := (hb2.cell (by simp)).trans (by simp [go_sem])
  have y0 : w2.frozen? ⟨w.heap.size + 1, 0, none⟩ = false := (hb2.frozen (by simp)).trans (by simp [go_sem])
  have y1 : w2.frozen? ⟨w.heap.size + 1, 1, none⟩ = false := (hb2.frozen (by simp)).trans (by simp [go_sem])
  have y2 : w2.frozen? ⟨w.heap.size + 1, 2, none⟩ = false := (hb2.frozen (by simp)).trans (by simp [go_sem])
  have y3 : w2.frozen? ⟨w.heap.size + 1, 3, none⟩ = false := (hb2.frozen (by simp)).trans (by simp [go_sem])
  have y4 : w2.frozen? ⟨w.heap.size + 1, 4, none⟩ = false := (hb2.frozen (by simp)).trans (by simp [go_sem])
  have y5 : w2.frozen? ⟨w.heap.size + 1, 5, none⟩ = false := (hb2.frozen (by simp)).trans (by simp [go_sem])
  have hsz : w.heap.size + 1 + 1 < w2.heap.size := by have := hb2.size; simp at this; omega
  go_wp2
  refine bodyPost_ret (ret_jou (a := .int .i64 n) (b := .int .i64 t) (c := .int .i64 v) (d := .int .i64 s) (e := .int .i64 st) (f := .slice ao2 l.length cap2) rfl rfl (by simp [go_sem, p0]) (by simp [go_sem, p1]) (by simp [go_sem, p2]) (by simp [go_sem, p3]) (by simp [go_sem, p4]) (by simp [go_sem, p5])) rfl ⟨_, rfl, ?_, ?_⟩
  · have h3 : ownsR w2 (w.heap.size + 1 + 1 + 1) 94 (.slice ao2 l.length cap2) l := by simpa using h2
    refine ownsR.mono (B := w.heap.size + 1 + 1 + 1) ?_ (by omega)
    iterate 9 (refine ownsR.setBelow ?_ (by simp) _)
    exact h3
  · have hb3 : Below w.heap.size w w2 := by
      exact Below.trans (ba (ba (ba (Below.refl _ _) _) _) _) (hb2.mono (by simp; omega))
    iterate 9 (refine Below.setCell ?_ (by first | (simp; done) | (simp; omega)) _)
    exact hb3

set_option maxRecDepth 10000 in
set_option maxHeartbeats 1000000 in
theorem eqJournal_any (n t v s st : Int) (va vb : Value) (l : List En) (w : World) (ha : Reads w va l) (hb : Reads w vb l) (hn : l.length ≤ 1048577) :
    Calls Tryd.prog 24 #[jV n t v s st va, jV n t v s st vb] w fun e w' => e = .returned (.bool true) ∧ Below w.heap.size w w' := by
  obtain ⟨ao, c, rfl, _⟩ := id ha
  obtain ⟨bo, d, rfl, _⟩ := id hb
  have HA : Hid (Reads w (.slice ao l.length c) l) := ha
  have HB : Hid (Reads w (.slice bo l.length d) l) := hb
  clear ha hb
  go_enter Tryd.func24, Tryd.ntmps24
  go_wp2_with (go_at_call 48; refine (eqLog_any s st _ _ l _ ((HA.out.alloc _).alloc _) ((HB.out.alloc _).alloc _) hn).mono ?_; rintro e w2 ⟨rfl, hb2⟩)
  go_ret
  exact ⟨rfl, (ba (ba (Below.refl _ _) _) _).trans (hb2.mono (by simp; omega))⟩

theorem cellsJ : Tryd.prog.cellsOf 41 = 6 := by kernel_rfl
theorem cellsJl : Tryd.prog.cellsOf 39 = 3 := by kernel_rfl
theorem len6 {α : Type} {l : List α} (h : l.length = 6) : ∃ a b c d e f, l = [a, b, c, d, e, f] := by
  match l, h with
  | [a, b, c, d, e, f], _ => exact ⟨a, b, c, d, e, f, rfl⟩
theorem open_journal {H : Type} {enc : TypeId × Value → H} {W : World} {v : Value} {d : DataW H} {p : List MemPlace} (hv : ∃ cs, v = .agg cs ∧ cs.size = Tryd.prog.cellsOf 41) (h : DataW.Trod enc Tryd.prog W 0 (fun _ => true) true 41 v d p) :
    ∃ (n t v' s st : Int) (a : Option Addr) (k c : Nat) (l : List En), v = jV n t v' s st (.slice a k c) ∧ Reads W (.slice a k c) l ∧ SmallEn l ∧ k ≤ 9223372036854775807 := by
  obtain ⟨cs, rfl, _⟩ := hv
  obtain ⟨fuel, hf⟩ := h
  obtain ⟨y0, y1, y2, y3, m, _, hl, e0, e1, e2, e3⟩ := Go.Joins.trod_struct4 Tryd.underlying41 hf
  rw [cellsJ] at hl
  obtain ⟨c0, c1, c2, c3, c4, c5, hcs⟩ := len6 hl
  simp only [cellsJl, cells3, hcs, List.drop_zero, List.drop_succ_cons, List.take_succ_cons, List.take_zero] at e0 e1 e2 e3
  obtain ⟨k0, g0, _, _⟩ := DataW.trod_int Tryd.underlying3 e0
  obtain ⟨k1, g1, _, _⟩ := DataW.trod_int Tryd.underlying3 e1
  obtain ⟨k2, g2, _, _⟩ := DataW.trod_int Tryd.underlying3 e2
  simp only [List.cons.injEq, and_true] at g0 g1 g2
  subst g0 g1 g2
  obtain ⟨s, st, a, k, c, l, hv, hr, hS, hk⟩ := open_log (v := .agg #[c3, c4, c5]) (d := y3.1) (p := y3.2) ⟨#[c3, c4, c5], rfl, by rw [cellsJl]; rfl⟩ ⟨m, e3⟩
  simp only [Value.agg.injEq] at hv
  have hv2 := congrArg Array.toList hv
  simp only [List.cons.injEq, and_true] at hv2
  obtain ⟨rfl, rfl, rfl⟩ := hv2
  refine ⟨k0, k1, k2, s, st, a, k, c, l, ?_, hr, hS, hk⟩
  have e : cs.toList = [.int .i64 k0, .int .i64 k1, .int .i64 k2, .int .i64 s, .int .i64 st, .slice a k c] := hcs
  show Value.agg cs = Value.agg _
  congr 1
  exact Array.toList_inj.1 e
end Go.Proofs.YtijmaplejpnggaaDoor
