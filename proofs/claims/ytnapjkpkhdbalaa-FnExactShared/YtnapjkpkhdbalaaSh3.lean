/-
  What two logs share, as the specification tells it: the walk.
-/
import Derived.Test.YtnapjkpkhdbalaaSh2
namespace Go.Proofs.Ytnapjkpkhdbalaa
open Go Go.RowKit

theorem same_end2 {a b : List En} {i j : Nat} (h : a.length ≤ i ∨ b.length ≤ j) : same (a.drop i) (b.drop j) = 0 := by
  rcases h with h | h
  · rw [List.drop_eq_nil_of_le h]; simp [same]
  · rw [List.drop_eq_nil_of_le h]; cases a.drop i <;> simp [same]
theorem same_step2 {a b : List En} {i j : Nat} {x y : En} (ha : a[i]? = some x) (hb : b[j]? = some y) : same (a.drop i) (b.drop j) = if eqEn x y then same (a.drop (i + 1)) (b.drop (j + 1)) + 1 else 0 := by
  have hk : i < a.length := (List.getElem?_eq_some_iff.1 ha).1
  have hl : j < b.length := (List.getElem?_eq_some_iff.1 hb).1
  have e : a[i] = x := by rw [List.getElem?_eq_getElem hk] at ha; exact Option.some.inj ha
  have e' : b[j] = y := by rw [List.getElem?_eq_getElem hl] at hb; exact Option.some.inj hb
  rw [List.drop_eq_getElem_cons hk, List.drop_eq_getElem_cons hl, e, e']
  rfl
theorem term_nonneg {s t i : Int} {l : List En} (h : okL s t l = true) (hh : hasL s l.length i = true) : 0 ≤ termL s t l i := by
  obtain ⟨_, _, a2, _, _, _, hr⟩ := okL_all h
  by_cases e : i = s
  · subst e; rw [termL_start]; exact a2
  · obtain ⟨k, f, hf, rfl⟩ := has_cases hh e
    rw [termL_in hf]
    exact rises_term l t hr a2 f (List.mem_of_getElem? hf)

set_option maxRecDepth 10000 in
set_option maxHeartbeats 8000000 in
theorem specShared_try (s t : Int) (ao : Option Addr) (n c : Nat) (l : List En) (s2 t2 : Int) (bo : Option Addr) (n2 c2 : Nat) (l2 : List En) (w : World) (hr : Reads w (.slice ao n c) l) (hn : n ≤ 1048576) (hz : SizedE l) (hr2 : Reads w (.slice bo n2 c2) l2) (hn2 : n2 ≤ 1048576) (hz2 : SizedE l2) :
    Calls Try.prog 26 #[.agg #[.int .i64 s, .int .i64 t, .slice ao n c], .agg #[.int .i64 s2, .int .i64 t2, .slice bo n2 c2]] w fun e w' => e = .returned (.int .i64 (sharedL s t l s2 t2 l2)) ∧ Below w.heap.size w w' := by
  have HR : Hid (Reads w (.slice ao n c) l) := hr
  have HN : Hid (n = l.length) := hr.len
  have HZ : Hid (SizedE l) := hz
  have HR2 : Hid (Reads w (.slice bo n2 c2) l2) := hr2
  have HN2 : Hid (n2 = l2.length) := hr2.len
  have HZ2 : Hid (SizedE l2) := hz2
  clear hr hz hr2 hz2
  obtain ⟨q, HQ⟩ : ∃ q, Hid (okL s t l = q) := ⟨_, rfl⟩
  obtain ⟨q2, HQ2⟩ : ∃ q, Hid (okL s2 t2 l2 = q) := ⟨_, rfl⟩
  obtain ⟨ans, HA⟩ : ∃ a, Hid (sharedL s t l s2 t2 l2 = a) := ⟨_, rfl⟩
  rw [HA.out]
  go_enter Try.func26, Try.ntmps26
  go_wp2_with fail
  have L0 := s2_new w s t (.slice ao n c) s2 t2 (.slice bo n2 c2)
  obtain ⟨W, hW⟩ : ∃ W, (w.alloc (Obj.cells #[.int .i64 s, .int .i64 t, .slice ao n c] 29)).alloc (Obj.cells #[.int .i64 s2, .int .i64 t2, .slice bo n2 c2] 29) = W := ⟨_, rfl⟩
  rw [hW] at L0 ⊢
  clear hW
  refine (specLogOk_any (HR.out.below L0.bel) (by rw [← HN.out]; omega) HZ.out).mono ?_
  rintro e w1 ⟨rfl, hb1⟩
  rw [HQ.out]
  have L1 := L0.up hb1
  clear hb1 L0
  cases q with
  | false =>
    go_wp2
    go_ret
    exact ⟨by rw [← HA.out, shared_no1 HQ.out]; rfl, L1.bel⟩
  | true =>
  have b0 := L1.b0
  have b1 := L1.b1
  have b2 := L1.b2
  go_wp2_with fail
  refine (specLogOk_any (HR2.out.below L1.bel) (by rw [← HN2.out]; omega) HZ2.out).mono ?_
  rintro e w2 ⟨rfl, hb2⟩
  rw [HQ2.out]
  have L2 := L1.up hb2
  clear hb2 L1 b0 b1 b2
  cases q2 with
  | false =>
    go_wp2
    go_ret
    exact ⟨by rw [← HA.out, shared_no2 HQ2.out]; rfl, L2.bel⟩
  | true =>
  obtain ⟨p0, p1, p2, p3, p4, p5, -⟩ := okL_all HQ.out
  obtain ⟨r0, r1, r2, r3, r4, r5, -⟩ := okL_all HQ2.out
  rw [← HN.out] at p4 p5
  rw [← HN2.out] at r4 r5
  by_cases hss : s < s2
  · have hm : max s s2 = s2 := by omega
    obtain ⟨y1, HY1⟩ : ∃ y, Hid (termL s t l s2 = y) := ⟨_, rfl⟩
    obtain ⟨y2, HY2⟩ : ∃ y, Hid (termL s2 t2 l2 s2 = y) := ⟨_, rfl⟩
    have H1 : Hid (∀ x : Wd w2, Calls Try.prog 16 #[.agg #[.int .i64 s, .int .i64 t, .slice ao n c], .int .i64 s2] x.at' fun e w' => e = .returned (.int .i64 y1) ∧ Below x.at'.heap.size x.at' w') := fun x => by
      rw [← HY1.out]; exact specLogTerm_try _ _ _ _ _ _ l _ (HR.out.below (Below.on L2.bel x.ok)) p0 p1 p4
    have H2 : Hid (∀ x : Wd w2, Calls Try.prog 16 #[.agg #[.int .i64 s2, .int .i64 t2, .slice bo n2 c2], .int .i64 s2] x.at' fun e w' => e = .returned (.int .i64 y2) ∧ Below x.at'.heap.size x.at' w') := fun x => by
      rw [← HY2.out]; exact specLogTerm_try _ _ _ _ _ _ l2 _ (HR2.out.below (Below.on L2.bel x.ok)) r0 r1 r4
    have HTY : Hid (y1 = y2 → 0 ≤ y1) := fun e => by
      have h9 := term_nonneg HQ.out (has_both HQ.out HQ2.out (by rw [hm, HY1.out, HY2.out]; exact e)).1
      rw [hm, HY1.out] at h9
      exact h9
    by_cases hy0 : y1 < 0
    · have hg : decide (y1 < 0) = true := decide_eq_true hy0
      have HF : Hid (ans = -1) := by
        show _ = _
        rw [← HA.out, shared_no3 (by rw [hm, HY1.out, HY2.out]; intro e; have := HTY.out e; omega)]
      have a0 := L2.a0
      have a1 := L2.a1
      have a2 := L2.a2
      have b0 := L2.b0
      have b1 := L2.b1
      have b2 := L2.b2
      have q0 := Wd.cell a0
      have q1 := Wd.cell a1
      have q2 := Wd.cell a2
      have u0 := Wd.cell b0
      have u1 := Wd.cell b1
      have u2 := Wd.cell b2
      go_wp2
      refine wp_region_wd (by kernel_rfl) (by kernel_rfl) ?_
      repeat (go_big_quiet_step ((first | (go_at_call 16; refine calls_wd (v := .int .i64 y1) ?_; with_reducible exact H1.out _) | (go_at_call 16; refine calls_wd (v := .int .i64 y2) ?_; with_reducible exact H2.out _))))
      refine wpQuiet_nil ?_
      rintro _ ⟨y, rfl⟩
      have L3 := L2.up y.ok
      go_wp2
      go_ret
      exact ⟨by rw [HF.out]; rfl, L3.bel⟩
    by_cases hy : y1 = y2
    rotate_left
    · have hg : decide (y1 < 0) = false := decide_eq_false hy0
      have HF : Hid (ans = -1) := by
        show _ = _
        rw [← HA.out, shared_no3 (by rw [hm, HY1.out, HY2.out]; exact hy)]
      have a0 := L2.a0
      have a1 := L2.a1
      have a2 := L2.a2
      have b0 := L2.b0
      have b1 := L2.b1
      have b2 := L2.b2
      have q0 := Wd.cell a0
      have q1 := Wd.cell a1
      have q2 := Wd.cell a2
      have u0 := Wd.cell b0
      have u1 := Wd.cell b1
      have u2 := Wd.cell b2
      go_wp2
      refine wp_region_wd (by kernel_rfl) (by kernel_rfl) ?_
      repeat (go_big_quiet_step ((first | (go_at_call 16; refine calls_wd (v := .int .i64 y1) ?_; with_reducible exact H1.out _) | (go_at_call 16; refine calls_wd (v := .int .i64 y2) ?_; with_reducible exact H2.out _))))
      refine wpQuiet_nil ?_
      rintro _ ⟨y, rfl⟩
      have L3 := L2.up y.ok
      go_wp2
      go_ret
      exact ⟨by rw [HF.out]; rfl, L3.bel⟩
    have hg : decide (y1 < 0) = false := decide_eq_false hy0
    have HTT : Hid (termL s t l (max s s2) = termL s2 t2 l2 (max s s2)) := by show _ = _; rw [hm, HY1.out, HY2.out]; exact hy
    obtain ⟨g1, g2⟩ := has_both HQ.out HQ2.out HTT.out
    rw [hm] at g1 g2
    simp only [hasL, Bool.and_eq_true, decide_eq_true_eq] at g1 g2
    rw [← HN.out] at g1
    rw [← HN2.out] at g2
    obtain ⟨k1, hk1⟩ : ∃ k : Nat, (k : Int) = s2 - s := ⟨(s2 - s).toNat, by omega⟩
    obtain ⟨k2, hk2⟩ : ∃ k : Nat, (k : Int) = s2 - s2 := ⟨(s2 - s2).toNat, by omega⟩
    have HAN : Hid (ans = s2 + same (l.drop k1) (l2.drop k2)) := by
      show _ = _
      rw [← HA.out, shared_yes HQ.out HQ2.out HTT.out, hm, show (s2 - s).toNat = k1 by omega, show (s2 - s2).toNat = k2 by omega]
    have HK1 : Hid ((k1 : Int) = s2 - s) := hk1
    have HK2 : Hid ((k2 : Int) = s2 - s2) := hk2
    clear hk1 hk2 g1 g2 HTT
    subst hy
    have a0 := L2.a0
    have a1 := L2.a1
    have a2 := L2.a2
    have b0 := L2.b0
    have b1 := L2.b1
    have b2 := L2.b2
    have q0 := Wd.cell a0
    have q1 := Wd.cell a1
    have q2 := Wd.cell a2
    have u0 := Wd.cell b0
    have u1 := Wd.cell b1
    have u2 := Wd.cell b2
    go_wp2
    refine wp_region_wd (by kernel_rfl) (by kernel_rfl) ?_
    repeat (go_big_quiet_step ((first | (go_at_call 16; refine calls_wd (v := .int .i64 y1) ?_; with_reducible exact H1.out _) | (go_at_call 16; refine calls_wd (v := .int .i64 y1) ?_; with_reducible exact H2.out _))))
    refine wpQuiet_nil ?_
    rintro _ ⟨y, rfl⟩
    have L3 := L2.up y.ok
    go_wp2
    clear a0 a1 a2 b0 b1 b2 q0 q1 q2 u0 u1 u2 H1 H2 HTY HY1 HY2 L2
    go_loopw [6] (fun i wr => ∃ k : Nat, i = .int .i64 (s2 + k) ∧ k ≤ 60 ∧ Hid (same (l.drop k1) (l2.drop k2) = k + same (l.drop (k1 + k)) (l2.drop (k2 + k))) ∧ S2 w wr s t (.slice ao n c) s2 t2 (.slice bo n2 c2)) (fun i _ => (s2 + 60 - intOf i).toNat)
    case atStart => exact ⟨0, by simp, Nat.zero_le _, by show _ = _; simp, L3⟩
    case round =>
      clear L3
      obtain ⟨k, rfl, hk60, HE, SR⟩ := hrel
      obtain ⟨j1, hj1⟩ : ∃ j, j = k1 + k := ⟨_, rfl⟩
      have e1 : s2 + (k : Int) - s = (j1 : Int) := by have := HK1.out; omega
      have e2 : s2 + (k : Int) - s2 = (k : Int) := by omega
      have HJ1 : Hid (j1 = k1 + k) := hj1
      have HJ2 : Hid (k = k2 + k) := by have h9 := HK2.out; show k = _; omega
      clear hj1
      have hsn : s + (n : Int) ≤ 1000000 := p5
      by_cases hl1 : j1 < n
      rotate_left
      · have hg1 : decide (s2 + (k : Int) < s + n) = false := decide_eq_false (by omega)
        have HF : Hid (ans = s2 + k) := by
          show _ = _
          rw [HAN.out, HE.out, ← HJ1.out, ← HJ2.out, same_end2 (.inl (by rw [← HN.out]; omega))]; simp
        have a0 := SR.a0
        have a1 := SR.a1
        have a2 := SR.a2
        have b0 := SR.b0
        have b1 := SR.b1
        have b2 := SR.b2
        have q0 := Wd.cell a0
        have q1 := Wd.cell a1
        have q2 := Wd.cell a2
        have u0 := Wd.cell b0
        have u1 := Wd.cell b1
        have u2 := Wd.cell b2
        go_wp2
        refine wp_region_wd (by kernel_rfl) (by kernel_rfl) ?_
        repeat (go_big_quiet_step ((first | (go_at_call 34; refine calls_wd (v := .int .i64 (s + n)) ?_; with_reducible exact l06Last_any _ _ _ _ _ _ p0 p1 p4) | (go_at_call 34; refine calls_wd (v := .int .i64 (s2 + n2)) ?_; with_reducible exact l06Last_any _ _ _ _ _ _ r0 r1 r4))))
        refine wpQuiet_nil ?_
        rintro _ ⟨y, rfl⟩
        have SR2 := SR.up y.ok
        go_wp2
        go_ret
        exact ⟨by rw [HF.out]; rfl, SR2.bel⟩
      by_cases hl2 : k < n2
      rotate_left
      · have hg1 : decide (s2 + (k : Int) < s + n) = true := decide_eq_true (by omega)
        have hg2 : decide (s2 + (k : Int) < s2 + n2) = false := decide_eq_false (by omega)
        have hg2n : decide (k < n2) = false := decide_eq_false (by omega)
        have HF : Hid (ans = s2 + k) := by
          show _ = _
          rw [HAN.out, HE.out, ← HJ1.out, ← HJ2.out, same_end2 (.inr (by rw [← HN2.out]; omega))]; simp
        have a0 := SR.a0
        have a1 := SR.a1
        have a2 := SR.a2
        have b0 := SR.b0
        have b1 := SR.b1
        have b2 := SR.b2
        have q0 := Wd.cell a0
        have q1 := Wd.cell a1
        have q2 := Wd.cell a2
        have u0 := Wd.cell b0
        have u1 := Wd.cell b1
        have u2 := Wd.cell b2
        go_wp2
        refine wp_region_wd (by kernel_rfl) (by kernel_rfl) ?_
        repeat (go_big_quiet_step ((first | (go_at_call 34; refine calls_wd (v := .int .i64 (s + n)) ?_; with_reducible exact l06Last_any _ _ _ _ _ _ p0 p1 p4) | (go_at_call 34; refine calls_wd (v := .int .i64 (s2 + n2)) ?_; with_reducible exact l06Last_any _ _ _ _ _ _ r0 r1 r4))))
        refine wpQuiet_nil ?_
        rintro _ ⟨y, rfl⟩
        have SR2 := SR.up y.ok
        go_wp2
        go_ret
        exact ⟨by rw [HF.out]; rfl, SR2.bel⟩
      have hg1 : decide (s2 + (k : Int) < s + n) = true := decide_eq_true (by omega)
      have hg2 : decide (s2 + (k : Int) < s2 + n2) = true := decide_eq_true (by omega)
      have hg2n : decide (k < n2) = true := decide_eq_true (by omega)
      obtain ⟨x, hx⟩ : ∃ f, l[j1]? = some f := ⟨_, List.getElem?_eq_getElem (by rw [← HN.out]; exact hl1)⟩
      obtain ⟨z, hz⟩ : ∃ f, l2[k]? = some f := ⟨_, List.getElem?_eq_getElem (by rw [← HN2.out]; exact hl2)⟩
      have HST : Hid (same (l.drop j1) (l2.drop k) = if eqEn x z then same (l.drop (j1 + 1)) (l2.drop (k + 1)) + 1 else 0) := same_step2 hx hz
      obtain ⟨ba', oa', rfl, hba', c0, c1, c2'⟩ := en_at (HR.out.below SR.bel) hx
      obtain ⟨bb', ob', rfl, hbb', d0, d1, d2⟩ := en_at (HR2.out.below SR.bel) hz
      have v0 := Wd.cell c0
      have v1 := Wd.cell c1
      have v2 := Wd.cell c2'
      have v3 := Wd.cell d0
      have v4 := Wd.cell d1
      have v5 := Wd.cell d2
      clear hx hz
      obtain ⟨q, HQE⟩ : ∃ q, Hid (eqEn x z = q) := ⟨_, rfl⟩
      have he : ∀ wx, (binOp .eql 42 (.agg #[.int .i64 x.term, .int .i64 x.kind, .string x.data]) (.agg #[.int .i64 z.term, .int .i64 z.kind, .string z.data])).run Try.prog wx = .ok (.bool q) wx := fun wx => by
        rw [← HQE.out]; exact run_eq_en x z wx
      have hk59 : k + 1 ≤ 60 := by have := HJ1.out; omega
      cases q with
      | true =>
        have HE2 : Hid (same (l.drop k1) (l2.drop k2) = (k + 1 : Nat) + same (l.drop (k1 + (k + 1))) (l2.drop (k2 + (k + 1)))) := by
          show _ = _
          have h9 := HST.out
          rw [HQE.out, if_pos rfl] at h9
          have hA := HJ1.out
          have hB := HJ2.out
          have hC : k1 + (k + 1) = j1 + 1 := by omega
          have hD : k2 + (k + 1) = k + 1 := by omega
          rw [HE.out, hC, hD, ← hA, ← hB, h9]; omega
        have a0 := SR.a0
        have a1 := SR.a1
        have a2 := SR.a2
        have b0 := SR.b0
        have b1 := SR.b1
        have b2 := SR.b2
        have q0 := Wd.cell a0
        have q1 := Wd.cell a1
        have q2 := Wd.cell a2
        have u0 := Wd.cell b0
        have u1 := Wd.cell b1
        have u2 := Wd.cell b2
        go_wp2
        refine wp_region_wd (by kernel_rfl) (by kernel_rfl) ?_
        repeat (go_big_quiet_step ((first | (go_at_call 34; refine calls_wd (v := .int .i64 (s + n)) ?_; with_reducible exact l06Last_any _ _ _ _ _ _ p0 p1 p4) | (go_at_call 34; refine calls_wd (v := .int .i64 (s2 + n2)) ?_; with_reducible exact l06Last_any _ _ _ _ _ _ r0 r1 r4))))
        refine wpQuiet_nil ?_
        rintro _ ⟨y, rfl⟩
        have SR2 := SR.up y.ok
        go_wp2
        go_roundw
        case rel => exact ⟨k + 1, by go_num, hk59, HE2, SR2⟩
        case measure => simp [intOf]; omega
      | false =>
        have HF : Hid (ans = s2 + k) := by
          show _ = _
          rw [HAN.out, HE.out, ← HJ1.out, ← HJ2.out, HST.out, HQE.out]; simp
        have a0 := SR.a0
        have a1 := SR.a1
        have a2 := SR.a2
        have b0 := SR.b0
        have b1 := SR.b1
        have b2 := SR.b2
        have q0 := Wd.cell a0
        have q1 := Wd.cell a1
        have q2 := Wd.cell a2
        have u0 := Wd.cell b0
        have u1 := Wd.cell b1
        have u2 := Wd.cell b2
        go_wp2
        refine wp_region_wd (by kernel_rfl) (by kernel_rfl) ?_
        repeat (go_big_quiet_step ((first | (go_at_call 34; refine calls_wd (v := .int .i64 (s + n)) ?_; with_reducible exact l06Last_any _ _ _ _ _ _ p0 p1 p4) | (go_at_call 34; refine calls_wd (v := .int .i64 (s2 + n2)) ?_; with_reducible exact l06Last_any _ _ _ _ _ _ r0 r1 r4))))
        refine wpQuiet_nil ?_
        rintro _ ⟨y, rfl⟩
        have SR2 := SR.up y.ok
        go_wp2
        go_ret
        exact ⟨by rw [HF.out]; rfl, SR2.bel⟩
  · have hm : max s s2 = s := by omega
    obtain ⟨y1, HY1⟩ : ∃ y, Hid (termL s t l s = y) := ⟨_, rfl⟩
    obtain ⟨y2, HY2⟩ : ∃ y, Hid (termL s2 t2 l2 s = y) := ⟨_, rfl⟩
    have H1 : Hid (∀ x : Wd w2, Calls Try.prog 16 #[.agg #[.int .i64 s, .int .i64 t, .slice ao n c], .int .i64 s] x.at' fun e w' => e = .returned (.int .i64 y1) ∧ Below x.at'.heap.size x.at' w') := fun x => by
      rw [← HY1.out]; exact specLogTerm_try _ _ _ _ _ _ l _ (HR.out.below (Below.on L2.bel x.ok)) p0 p1 p4
    have H2 : Hid (∀ x : Wd w2, Calls Try.prog 16 #[.agg #[.int .i64 s2, .int .i64 t2, .slice bo n2 c2], .int .i64 s] x.at' fun e w' => e = .returned (.int .i64 y2) ∧ Below x.at'.heap.size x.at' w') := fun x => by
      rw [← HY2.out]; exact specLogTerm_try _ _ _ _ _ _ l2 _ (HR2.out.below (Below.on L2.bel x.ok)) r0 r1 r4
    have HTY : Hid (y1 = y2 → 0 ≤ y1) := fun e => by
      have h9 := term_nonneg HQ.out (has_both HQ.out HQ2.out (by rw [hm, HY1.out, HY2.out]; exact e)).1
      rw [hm, HY1.out] at h9
      exact h9
    by_cases hy0 : y1 < 0
    · have hg : decide (y1 < 0) = true := decide_eq_true hy0
      have HF : Hid (ans = -1) := by
        show _ = _
        rw [← HA.out, shared_no3 (by rw [hm, HY1.out, HY2.out]; intro e; have := HTY.out e; omega)]
      have a0 := L2.a0
      have a1 := L2.a1
      have a2 := L2.a2
      have b0 := L2.b0
      have b1 := L2.b1
      have b2 := L2.b2
      have q0 := Wd.cell a0
      have q1 := Wd.cell a1
      have q2 := Wd.cell a2
      have u0 := Wd.cell b0
      have u1 := Wd.cell b1
      have u2 := Wd.cell b2
      go_wp2
      refine wp_region_wd (by kernel_rfl) (by kernel_rfl) ?_
      repeat (go_big_quiet_step ((first | (go_at_call 16; refine calls_wd (v := .int .i64 y1) ?_; with_reducible exact H1.out _) | (go_at_call 16; refine calls_wd (v := .int .i64 y2) ?_; with_reducible exact H2.out _))))
      refine wpQuiet_nil ?_
      rintro _ ⟨y, rfl⟩
      have L3 := L2.up y.ok
      go_wp2
      go_ret
      exact ⟨by rw [HF.out]; rfl, L3.bel⟩
    by_cases hy : y1 = y2
    rotate_left
    · have hg : decide (y1 < 0) = false := decide_eq_false hy0
      have HF : Hid (ans = -1) := by
        show _ = _
        rw [← HA.out, shared_no3 (by rw [hm, HY1.out, HY2.out]; exact hy)]
      have a0 := L2.a0
      have a1 := L2.a1
      have a2 := L2.a2
      have b0 := L2.b0
      have b1 := L2.b1
      have b2 := L2.b2
      have q0 := Wd.cell a0
      have q1 := Wd.cell a1
      have q2 := Wd.cell a2
      have u0 := Wd.cell b0
      have u1 := Wd.cell b1
      have u2 := Wd.cell b2
      go_wp2
      refine wp_region_wd (by kernel_rfl) (by kernel_rfl) ?_
      repeat (go_big_quiet_step ((first | (go_at_call 16; refine calls_wd (v := .int .i64 y1) ?_; with_reducible exact H1.out _) | (go_at_call 16; refine calls_wd (v := .int .i64 y2) ?_; with_reducible exact H2.out _))))
      refine wpQuiet_nil ?_
      rintro _ ⟨y, rfl⟩
      have L3 := L2.up y.ok
      go_wp2
      go_ret
      exact ⟨by rw [HF.out]; rfl, L3.bel⟩
    have hg : decide (y1 < 0) = false := decide_eq_false hy0
    have HTT : Hid (termL s t l (max s s2) = termL s2 t2 l2 (max s s2)) := by show _ = _; rw [hm, HY1.out, HY2.out]; exact hy
    obtain ⟨g1, g2⟩ := has_both HQ.out HQ2.out HTT.out
    rw [hm] at g1 g2
    simp only [hasL, Bool.and_eq_true, decide_eq_true_eq] at g1 g2
    rw [← HN.out] at g1
    rw [← HN2.out] at g2
    obtain ⟨k1, hk1⟩ : ∃ k : Nat, (k : Int) = s - s := ⟨(s - s).toNat, by omega⟩
    obtain ⟨k2, hk2⟩ : ∃ k : Nat, (k : Int) = s - s2 := ⟨(s - s2).toNat, by omega⟩
    have HAN : Hid (ans = s + same (l.drop k1) (l2.drop k2)) := by
      show _ = _
      rw [← HA.out, shared_yes HQ.out HQ2.out HTT.out, hm, show (s - s).toNat = k1 by omega, show (s - s2).toNat = k2 by omega]
    have HK1 : Hid ((k1 : Int) = s - s) := hk1
    have HK2 : Hid ((k2 : Int) = s - s2) := hk2
    clear hk1 hk2 g1 g2 HTT
    subst hy
    have a0 := L2.a0
    have a1 := L2.a1
    have a2 := L2.a2
    have b0 := L2.b0
    have b1 := L2.b1
    have b2 := L2.b2
    have q0 := Wd.cell a0
    have q1 := Wd.cell a1
    have q2 := Wd.cell a2
    have u0 := Wd.cell b0
    have u1 := Wd.cell b1
    have u2 := Wd.cell b2
    go_wp2
    refine wp_region_wd (by kernel_rfl) (by kernel_rfl) ?_
    repeat (go_big_quiet_step ((first | (go_at_call 16; refine calls_wd (v := .int .i64 y1) ?_; with_reducible exact H1.out _) | (go_at_call 16; refine calls_wd (v := .int .i64 y1) ?_; with_reducible exact H2.out _))))
    refine wpQuiet_nil ?_
    rintro _ ⟨y, rfl⟩
    have L3 := L2.up y.ok
    go_wp2
    clear a0 a1 a2 b0 b1 b2 q0 q1 q2 u0 u1 u2 H1 H2 HTY HY1 HY2 L2
    go_loopw [6] (fun i wr => ∃ k : Nat, i = .int .i64 (s + k) ∧ k ≤ 60 ∧ Hid (same (l.drop k1) (l2.drop k2) = k + same (l.drop (k1 + k)) (l2.drop (k2 + k))) ∧ S2 w wr s t (.slice ao n c) s2 t2 (.slice bo n2 c2)) (fun i _ => (s + 60 - intOf i).toNat)
    case atStart => exact ⟨0, by simp, Nat.zero_le _, by show _ = _; simp, L3⟩
    case round =>
      clear L3
      obtain ⟨k, rfl, hk60, HE, SR⟩ := hrel
      obtain ⟨j2, hj2⟩ : ∃ j, j = k2 + k := ⟨_, rfl⟩
      have e1 : s + (k : Int) - s = (k : Int) := by omega
      have e2 : s + (k : Int) - s2 = (j2 : Int) := by have := HK2.out; omega
      have HJ1 : Hid (k = k1 + k) := by have h9 := HK1.out; show k = _; omega
      have HJ2 : Hid (j2 = k2 + k) := hj2
      clear hj2
      have hsn : s + (n : Int) ≤ 1000000 := p5
      by_cases hl1 : k < n
      rotate_left
      · have hg1 : decide (s + (k : Int) < s + n) = false := decide_eq_false (by omega)
        have HF : Hid (ans = s + k) := by
          show _ = _
          rw [HAN.out, HE.out, ← HJ1.out, ← HJ2.out, same_end2 (.inl (by rw [← HN.out]; omega))]; simp
        have a0 := SR.a0
        have a1 := SR.a1
        have a2 := SR.a2
        have b0 := SR.b0
        have b1 := SR.b1
        have b2 := SR.b2
        have q0 := Wd.cell a0
        have q1 := Wd.cell a1
        have q2 := Wd.cell a2
        have u0 := Wd.cell b0
        have u1 := Wd.cell b1
        have u2 := Wd.cell b2
        go_wp2
        refine wp_region_wd (by kernel_rfl) (by kernel_rfl) ?_
        repeat (go_big_quiet_step ((first | (go_at_call 34; refine calls_wd (v := .int .i64 (s + n)) ?_; with_reducible exact l06Last_any _ _ _ _ _ _ p0 p1 p4) | (go_at_call 34; refine calls_wd (v := .int .i64 (s2 + n2)) ?_; with_reducible exact l06Last_any _ _ _ _ _ _ r0 r1 r4))))
        refine wpQuiet_nil ?_
        rintro _ ⟨y, rfl⟩
        have SR2 := SR.up y.ok
        go_wp2
        go_ret
        exact ⟨by rw [HF.out]; rfl, SR2.bel⟩
      by_cases hl2 : j2 < n2
      rotate_left
      · have hg1 : decide (s + (k : Int) < s + n) = true := decide_eq_true (by omega)
        have hg2 : decide (s + (k : Int) < s2 + n2) = false := decide_eq_false (by omega)
        have HF : Hid (ans = s + k) := by
          show _ = _
          rw [HAN.out, HE.out, ← HJ1.out, ← HJ2.out, same_end2 (.inr (by rw [← HN2.out]; omega))]; simp
        have a0 := SR.a0
        have a1 := SR.a1
        have a2 := SR.a2
        have b0 := SR.b0
        have b1 := SR.b1
        have b2 := SR.b2
        have q0 := Wd.cell a0
        have q1 := Wd.cell a1
        have q2 := Wd.cell a2
        have u0 := Wd.cell b0
        have u1 := Wd.cell b1
        have u2 := Wd.cell b2
        go_wp2
        refine wp_region_wd (by kernel_rfl) (by kernel_rfl) ?_
        repeat (go_big_quiet_step ((first | (go_at_call 34; refine calls_wd (v := .int .i64 (s + n)) ?_; with_reducible exact l06Last_any _ _ _ _ _ _ p0 p1 p4) | (go_at_call 34; refine calls_wd (v := .int .i64 (s2 + n2)) ?_; with_reducible exact l06Last_any _ _ _ _ _ _ r0 r1 r4))))
        refine wpQuiet_nil ?_
        rintro _ ⟨y, rfl⟩
        have SR2 := SR.up y.ok
        go_wp2
        go_ret
        exact ⟨by rw [HF.out]; rfl, SR2.bel⟩
      have hg1 : decide (s + (k : Int) < s + n) = true := decide_eq_true (by omega)
      have hg1n : decide (k < n) = true := decide_eq_true (by omega)
      have hg2 : decide (s + (k : Int) < s2 + n2) = true := decide_eq_true (by omega)
      obtain ⟨x, hx⟩ : ∃ f, l[k]? = some f := ⟨_, List.getElem?_eq_getElem (by rw [← HN.out]; exact hl1)⟩
      obtain ⟨z, hz⟩ : ∃ f, l2[j2]? = some f := ⟨_, List.getElem?_eq_getElem (by rw [← HN2.out]; exact hl2)⟩
      have HST : Hid (same (l.drop k) (l2.drop j2) = if eqEn x z then same (l.drop (k + 1)) (l2.drop (j2 + 1)) + 1 else 0) := same_step2 hx hz
      obtain ⟨ba', oa', rfl, hba', c0, c1, c2'⟩ := en_at (HR.out.below SR.bel) hx
      obtain ⟨bb', ob', rfl, hbb', d0, d1, d2⟩ := en_at (HR2.out.below SR.bel) hz
      have v0 := Wd.cell c0
      have v1 := Wd.cell c1
      have v2 := Wd.cell c2'
      have v3 := Wd.cell d0
      have v4 := Wd.cell d1
      have v5 := Wd.cell d2
      clear hx hz
      obtain ⟨q, HQE⟩ : ∃ q, Hid (eqEn x z = q) := ⟨_, rfl⟩
      have he : ∀ wx, (binOp .eql 42 (.agg #[.int .i64 x.term, .int .i64 x.kind, .string x.data]) (.agg #[.int .i64 z.term, .int .i64 z.kind, .string z.data])).run Try.prog wx = .ok (.bool q) wx := fun wx => by
        rw [← HQE.out]; exact run_eq_en x z wx
      have hk59 : k + 1 ≤ 60 := by have := HJ1.out; omega
      cases q with
      | true =>
        have HE2 : Hid (same (l.drop k1) (l2.drop k2) = (k + 1 : Nat) + same (l.drop (k1 + (k + 1))) (l2.drop (k2 + (k + 1)))) := by
          show _ = _
          have h9 := HST.out
          rw [HQE.out, if_pos rfl] at h9
          have hA := HJ1.out
          have hB := HJ2.out
          have hC : k1 + (k + 1) = k + 1 := by omega
          have hD : k2 + (k + 1) = j2 + 1 := by omega
          rw [HE.out, hC, hD, ← hA, ← hB, h9]; omega
        have a0 := SR.a0
        have a1 := SR.a1
        have a2 := SR.a2
        have b0 := SR.b0
        have b1 := SR.b1
        have b2 := SR.b2
        have q0 := Wd.cell a0
        have q1 := Wd.cell a1
        have q2 := Wd.cell a2
        have u0 := Wd.cell b0
        have u1 := Wd.cell b1
        have u2 := Wd.cell b2
        go_wp2
        refine wp_region_wd (by kernel_rfl) (by kernel_rfl) ?_
        repeat (go_big_quiet_step ((first | (go_at_call 34; refine calls_wd (v := .int .i64 (s + n)) ?_; with_reducible exact l06Last_any _ _ _ _ _ _ p0 p1 p4) | (go_at_call 34; refine calls_wd (v := .int .i64 (s2 + n2)) ?_; with_reducible exact l06Last_any _ _ _ _ _ _ r0 r1 r4))))
        refine wpQuiet_nil ?_
        rintro _ ⟨y, rfl⟩
        have SR2 := SR.up y.ok
        go_wp2
        go_roundw
        case rel => exact ⟨k + 1, by go_num, hk59, HE2, SR2⟩
        case measure => simp [intOf]; omega
      | false =>
        have HF : Hid (ans = s + k) := by
          show _ = _
          rw [HAN.out, HE.out, ← HJ1.out, ← HJ2.out, HST.out, HQE.out]; simp
        have a0 := SR.a0
        have a1 := SR.a1
        have a2 := SR.a2
        have b0 := SR.b0
        have b1 := SR.b1
        have b2 := SR.b2
        have q0 := Wd.cell a0
        have q1 := Wd.cell a1
        have q2 := Wd.cell a2
        have u0 := Wd.cell b0
        have u1 := Wd.cell b1
        have u2 := Wd.cell b2
        go_wp2
        refine wp_region_wd (by kernel_rfl) (by kernel_rfl) ?_
        repeat (go_big_quiet_step ((first | (go_at_call 34; refine calls_wd (v := .int .i64 (s + n)) ?_; with_reducible exact l06Last_any _ _ _ _ _ _ p0 p1 p4) | (go_at_call 34; refine calls_wd (v := .int .i64 (s2 + n2)) ?_; with_reducible exact l06Last_any _ _ _ _ _ _ r0 r1 r4))))
        refine wpQuiet_nil ?_
        rintro _ ⟨y, rfl⟩
        have SR2 := SR.up y.ok
        go_wp2
        go_ret
        exact ⟨by rw [HF.out]; rfl, SR2.bel⟩
end Go.Proofs.Ytnapjkpkhdbalaa
