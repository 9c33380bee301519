/-
  The log behind an index, on both sides: the walks.
-/
import Derived.Test.YtnapjkpkhdbalaaEb
namespace Go.Proofs.Ytnapjkpkhdbalaa
open Go Go.RowKit

/-- Whether a log is right, has the index, and has that term there. -/
def fitsL (s t : Int) (l : List En) (base term : Int) : Bool := okL s t l && hasL s l.length base && decide (termL s t l base = term)
/-- The entries of the log behind an index. -/
def behindL (s t : Int) (l : List En) (base term : Int) : List En := if fitsL s t l base term then l.drop (base - s).toNat else []
theorem behindL_no {s t : Int} {l : List En} {base term : Int} (h : fitsL s t l base term = false) : behindL s t l base term = [] := by simp [behindL, h]
theorem behindL_yes {s t : Int} {l : List En} {base term : Int} (h : fitsL s t l base term = true) : behindL s t l base term = l.drop (base - s).toNat := by simp [behindL, h]
theorem behindL_length (s t : Int) (l : List En) (base term : Int) : (behindL s t l base term).length ≤ l.length := by
  unfold behindL; split <;> simp

theorem cells3_new {w w' : World} {a b c : Value} {t : TypeId} (hb : Below (w.alloc (.cells #[a, b, c] t)).heap.size (w.alloc (.cells #[a, b, c] t)) w') :
    w'.cell? ⟨w.heap.size, 0, none⟩ = some a ∧ w'.cell? ⟨w.heap.size, 1, none⟩ = some b ∧ w'.cell? ⟨w.heap.size, 2, none⟩ = some c :=
  ⟨(hb.cell (by simp)).trans (by simp [go_sem]), (hb.cell (by simp)).trans (by simp [go_sem]), (hb.cell (by simp)).trans (by simp [go_sem])⟩

theorem Reads.slice3 {α : Type} [Rec α] {w : World} {v : Value} {l : List α} (h : Reads w v l) : ∃ a n c, v = .slice a n c := by
  obtain ⟨a, c, rfl, _⟩ := h
  exact ⟨a, _, c, rfl⟩
/-- What lies there in LogBehind: the log's box, the answer's, and the new one's. -/
structure B3 (w W : World) (s t base term : Int) (v : Value) : Prop where
  bel : Below w.heap.size w W
  size : w.heap.size + 3 ≤ W.heap.size
  a0 : W.cell? ⟨w.heap.size, 0, none⟩ = some (.int .i64 s)
  a1 : W.cell? ⟨w.heap.size, 1, none⟩ = some (.int .i64 t)
  a2 : W.cell? ⟨w.heap.size, 2, none⟩ = some v
  r0 : W.cell? ⟨w.heap.size + 1, 0, none⟩ = some (.int .i64 0)
  r1 : W.cell? ⟨w.heap.size + 1, 1, none⟩ = some (.int .i64 0)
  r2 : W.cell? ⟨w.heap.size + 1, 2, none⟩ = some (.slice none 0 0)
  b0 : W.cell? ⟨w.heap.size + 1 + 1, 0, none⟩ = some (.int .i64 base)
  b1 : W.cell? ⟨w.heap.size + 1 + 1, 1, none⟩ = some (.int .i64 term)
  b2 : W.cell? ⟨w.heap.size + 1 + 1, 2, none⟩ = some (.slice none 0 0)
  f0 : W.frozen? ⟨w.heap.size + 1, 0, none⟩ = false
  f1 : W.frozen? ⟨w.heap.size + 1, 1, none⟩ = false
  f2 : W.frozen? ⟨w.heap.size + 1, 2, none⟩ = false
  f3 : W.frozen? ⟨w.heap.size + 1 + 1, 2, none⟩ = false
theorem B3.up {w W W' : World} {s t base term : Int} {v : Value} (h : B3 w W s t base term v) (hb : Below W.heap.size W W') : B3 w W' s t base term v :=
  ⟨Below.on h.bel hb, Nat.le_trans h.size hb.size, cell_up hb h.a0, cell_up hb h.a1, cell_up hb h.a2, cell_up hb h.r0, cell_up hb h.r1, cell_up hb h.r2, cell_up hb h.b0, cell_up hb h.b1, cell_up hb h.b2, frozen_up hb h.r0 h.f0, frozen_up hb h.r1 h.f1, frozen_up hb h.r2 h.f2, frozen_up hb h.b2 h.f3⟩
theorem b3_new (w : World) (s t base term : Int) (v : Value) : B3 w (((w.alloc (Obj.cells #[.int .i64 s, .int .i64 t, v] 29)).alloc (Obj.cells #[.int .i64 0, .int .i64 0, .slice none 0 0] 29)).alloc (Obj.cells #[.int .i64 base, .int .i64 term, .slice none 0 0] 29)) s t base term v := by
  refine ⟨ba (ba (ba (Below.refl _ _) _) _) _, by simp, ?_, ?_, ?_, ?_, ?_, ?_, ?_, ?_, ?_, ?_, ?_, ?_, ?_⟩ <;> simp [go_sem]

set_option maxRecDepth 10000 in
set_option maxHeartbeats 2000000 in
theorem logBehind_try (s t base term : Int) (ao : Option Addr) (c B : Nat) (l : List En) (w : World) (ho : ownsR w B 42 (.slice ao l.length c) l) (hn : l.length ≤ 1048576) (hz : SizedE l) (hbm : base ≤ 9223372036854775807) :
    Calls Try.prog 25 #[.agg #[.int .i64 s, .int .i64 t, .slice ao l.length c], .int .i64 base, .int .i64 term] w fun e w' => ∃ v, e = .returned (.agg #[.int .i64 base, .int .i64 term, v]) ∧ ownsR w' w.heap.size 42 v (behindL s t l base term) ∧ Below w.heap.size w w' := by
  have HO : Hid (ownsR w B 42 (.slice ao l.length c) l) := ho
  have HZ : Hid (SizedE l) := hz
  clear ho hz
  obtain ⟨q, HQ⟩ : ∃ q, Hid (okL s t l = q) := ⟨_, rfl⟩
  go_enter Try.func25, Try.ntmps25
  go_wp2_with fail
  have L0 := b3_new w s t base term (.slice ao l.length c)
  obtain ⟨W, hW⟩ : ∃ W, ((w.alloc (Obj.cells #[.int .i64 s, .int .i64 t, .slice ao l.length c] 29)).alloc (Obj.cells #[.int .i64 0, .int .i64 0, .slice none 0 0] 29)).alloc (Obj.cells #[.int .i64 base, .int .i64 term, .slice none 0 0] 29) = W := ⟨_, rfl⟩
  rw [hW] at L0 ⊢
  clear hW
  refine (logOk_any (HO.out.reads.below L0.bel) (by omega) HZ.out).mono ?_
  rintro e w1 ⟨rfl, hb1⟩
  rw [HQ.out]
  have L1 := L0.up hb1
  clear hb1 L0
  cases q with
  | false =>
    have HF : Hid (fitsL s t l base term = false) := by show fitsL s t l base term = false; unfold fitsL; rw [HQ.out]; rfl
    have a0 := L1.a0
    have a1 := L1.a1
    have a2 := L1.a2
    have r0 := L1.r0
    have r1 := L1.r1
    have r2 := L1.r2
    have b0 := L1.b0
    have b1 := L1.b1
    have b2 := L1.b2
    have f0 := L1.f0
    have f1 := L1.f1
    have f2 := L1.f2
    have f3 := L1.f3
    go_wp2
    refine bodyPost_ret (ret_log (a := .int .i64 base) (b := .int .i64 term) (c := .slice none 0 0) rfl rfl (by simp [go_sem, r0]) (by simp [go_sem, r1]) (by simp [go_sem, r2])) rfl ⟨_, rfl, ?_, ?_⟩
    · rw [behindL_no HF.out]
      exact ownsR_nil _ _ _
    · refine Below.setCell (Below.setCell (Below.setCell L1.bel ?_ _) ?_ _) ?_ _ <;> simp
  | true =>
    obtain ⟨h0, h1, h2, h3, h4, h5, -⟩ := okL_all HQ.out
    have a0 := L1.a0
    have a1 := L1.a1
    have a2 := L1.a2
    go_wp2_with fail
    refine (has_any _ _ _ _ _ _ _ h0 h1 h4 hbm).mono ?_
    rintro e w2 ⟨rfl, hb2⟩
    have L2 := L1.up hb2
    clear hb2 L1 a0 a1 a2
    cases hh : hasL s l.length base with
    | false =>
      have HF : Hid (fitsL s t l base term = false) := by show fitsL s t l base term = false; unfold fitsL; rw [hh]; simp
      clear hh
      have a0 := L2.a0
      have a1 := L2.a1
      have a2 := L2.a2
      have r0 := L2.r0
      have r1 := L2.r1
      have r2 := L2.r2
      have b0 := L2.b0
      have b1 := L2.b1
      have b2 := L2.b2
      have f0 := L2.f0
      have f1 := L2.f1
      have f2 := L2.f2
      have f3 := L2.f3
      go_wp2
      refine bodyPost_ret (ret_log (a := .int .i64 base) (b := .int .i64 term) (c := .slice none 0 0) rfl rfl (by simp [go_sem, r0]) (by simp [go_sem, r1]) (by simp [go_sem, r2])) rfl ⟨_, rfl, ?_, ?_⟩
      · rw [behindL_no HF.out]
        exact ownsR_nil _ _ _
      · refine Below.setCell (Below.setCell (Below.setCell L2.bel ?_ _) ?_ _) ?_ _ <;> simp
    | true =>
      have HH : Hid (hasL s l.length base = true) := hh
      clear hh
      obtain ⟨y, HY⟩ : ∃ y, Hid (termL s t l base = y) := ⟨_, rfl⟩
      have a0 := L2.a0
      have a1 := L2.a1
      have a2 := L2.a2
      go_wp2_with fail
      refine (logTerm_try _ _ _ _ _ _ l _ (HO.out.reads.below L2.bel) h0 h1 h4 hbm).mono ?_
      rintro e w3 ⟨rfl, hb3⟩
      have L3 := L2.up hb3
      clear hb3 L2 a0 a1 a2
      rw [HY.out]
      by_cases hy : y = term
      · have HF : Hid (fitsL s t l base term = true) := by show fitsL s t l base term = true; unfold fitsL; rw [HQ.out, HH.out, HY.out, decide_eq_true hy]; rfl
        subst hy
        have a0 := L3.a0
        have a1 := L3.a1
        have a2 := L3.a2
        go_wp2_with fail
        refine (behind_any (HO.out.all L3.bel) h4 HH.out).mono ?_
        rintro e w4 ⟨v4, rfl, hr4, hb4⟩
        have L4 := L3.up hb4
        clear hb4 L3 a0 a1 a2
        obtain ⟨D, HD⟩ : ∃ D, Hid (D = l.drop (base - s).toNat) := ⟨_, rfl⟩
        rw [← HD.out] at hr4
        have hD : D.length ≤ 60 := by rw [HD.out]; simp; omega
        have HZD : Hid (SizedE D) := fun f hf => HZ.out f (List.mem_of_mem_drop (by rw [← HD.out]; exact hf))
        obtain ⟨a4, n4, c4, rfl⟩ := hr4.slice3
        have hn4 : n4 ≤ 1048576 := by rw [hr4.len]; omega
        have HR4 : Hid (Reads w4 (.slice a4 n4 c4) D) := hr4
        clear hr4 hD
        go_wp2_with fail
        refine (moved_try a4 n4 c4 D _ HR4.out hn4 HZD.out).mono ?_
        rintro e w5 ⟨v5, rfl, ho5, hb5⟩
        have L5 := L4.up hb5
        have hs4 := L4.size
        clear hb5 L4
        obtain ⟨a5, n5, c5, rfl⟩ := ho5.slice3
        have a0 := L5.a0
        have a1 := L5.a1
        have a2 := L5.a2
        have r0 := L5.r0
        have r1 := L5.r1
        have r2 := L5.r2
        have b0 := L5.b0
        have b1 := L5.b1
        have b2 := L5.b2
        have f0 := L5.f0
        have f1 := L5.f1
        have f2 := L5.f2
        have f3 := L5.f3
        go_wp2
        refine bodyPost_ret (ret_log (a := .int .i64 base) (b := .int .i64 y) (c := .slice a5 n5 c5) rfl rfl (by simp [go_sem, r0]) (by simp [go_sem, r1]) (by simp [go_sem, r2])) rfl ⟨_, rfl, ?_, ?_⟩
        · rw [behindL_yes HF.out, ← HD.out]
          refine ownsR.mono (ownsR.setBelow (ownsR.setBelow (ownsR.setBelow (ownsR.setBelow ho5 ?_ _) ?_ _) ?_ _) ?_ _) ?_ <;> (try simp) <;> omega
        · refine Below.setCell (Below.setCell (Below.setCell (Below.setCell L5.bel ?_ _) ?_ _) ?_ _) ?_ _ <;> simp <;> omega
      · have HF : Hid (fitsL s t l base term = false) := by show fitsL s t l base term = false; unfold fitsL; rw [HY.out, decide_eq_false hy]; simp
        have a0 := L3.a0
        have a1 := L3.a1
        have a2 := L3.a2
        have r0 := L3.r0
        have r1 := L3.r1
        have r2 := L3.r2
        have b0 := L3.b0
        have b1 := L3.b1
        have b2 := L3.b2
        have f0 := L3.f0
        have f1 := L3.f1
        have f2 := L3.f2
        have f3 := L3.f3
        go_wp2
        refine bodyPost_ret (ret_log (a := .int .i64 base) (b := .int .i64 term) (c := .slice none 0 0) rfl rfl (by simp [go_sem, r0]) (by simp [go_sem, r1]) (by simp [go_sem, r2])) rfl ⟨_, rfl, ?_, ?_⟩
        · rw [behindL_no HF.out]
          exact ownsR_nil _ _ _
        · refine Below.setCell (Below.setCell (Below.setCell L3.bel ?_ _) ?_ _) ?_ _ <;> simp
end Go.Proofs.Ytnapjkpkhdbalaa
