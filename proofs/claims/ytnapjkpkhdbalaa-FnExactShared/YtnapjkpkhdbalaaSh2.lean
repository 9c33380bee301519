/-
  What two logs share, as the program tells it: the walk.
-/
import Derived.Test.YtnapjkpkhdbalaaSh1
namespace Go.Proofs.Ytnapjkpkhdbalaa
open Go Go.RowKit

def behV (ao : Option Addr) (n k : Nat) : Value := if n = k then .slice ao 0 0 else .slice (ao.map fun x => x.add (k * 3)) (n - k) (n - k)
theorem behV_reads {w : World} {ao : Option Addr} {n c k : Nat} {l : List En} (hr : Reads w (.slice ao n c) l) : Reads w (behV ao n k) (l.drop k) := by
  unfold behV
  split
  · rw [List.drop_eq_nil_of_le (by rw [← hr.len]; omega)]; exact reads_none _ _ _
  · exact hr.drop k _
set_option maxHeartbeats 400000 in
theorem behind_val (s t : Int) (ao : Option Addr) (n c k : Nat) (w : World) (hn : n ≤ 60) (hk : k ≤ n) (hc : n ≤ c) :
    Calls Try.prog 40 #[.agg #[.int .i64 s, .int .i64 t, .slice ao n c], .int .i64 (s + k)] w fun e w' => e = .returned (behV ao n k) ∧ Below w.heap.size w w' := by
  have e1 : s + (k : Int) - s = (k : Int) := by omega
  by_cases hkn : n = k
  · subst hkn
    have HB : Hid (behV ao n n = .slice ao 0 0) := by show behV ao n n = _; simp [behV]
    rw [HB.out]
    go_enter Try.func40, Try.ntmps40
    go_wp2
    go_ret
    exact ⟨rfl, ba (Below.refl _ _) _⟩
  · have HB : Hid (behV ao n k = .slice (ao.map fun x => x.add (k * 3)) (n - k) (n - k)) := by show behV ao n k = _; simp [behV, hkn]
    rw [HB.out]
    go_enter Try.func40, Try.ntmps40
    go_wp2
    go_ret
    exact ⟨rfl, ba (Below.refl _ _) _⟩
set_option maxRecDepth 20000 in
theorem run_eq_en (x z : En) (wx : World) : (binOp .eql 42 (.agg #[.int .i64 x.term, .int .i64 x.kind, .string x.data]) (.agg #[.int .i64 z.term, .int .i64 z.kind, .string z.data])).run Try.prog wx = .ok (.bool (eqEn x z)) wx := by
  have hf : Try.prog.underlying 42 = some (.struct (Try.prog.fieldsOf 42)) := by kernel_rfl
  rw [run_eql_struct, run_equalIn_agg wx 9999 42 _ _ hf (by kernel_rfl)]
  unfold eqEn
  cases h1 : (x.term == z.term) <;> cases h2 : (x.kind == z.kind) <;> cases h3 : (x.data.toList == z.data.toList) <;> simp [go_sem, h1, h2, h3]
/-- What lies there in Shared: the two logs' boxes. -/
structure S2 (w W : World) (s t : Int) (v : Value) (s2 t2 : Int) (v2 : Value) : Prop where
  bel : Below w.heap.size w W
  a0 : W.cell? ⟨w.heap.size, 0, none⟩ = some (.int .i64 s)
  a1 : W.cell? ⟨w.heap.size, 1, none⟩ = some (.int .i64 t)
  a2 : W.cell? ⟨w.heap.size, 2, none⟩ = some v
  b0 : W.cell? ⟨w.heap.size + 1, 0, none⟩ = some (.int .i64 s2)
  b1 : W.cell? ⟨w.heap.size + 1, 1, none⟩ = some (.int .i64 t2)
  b2 : W.cell? ⟨w.heap.size + 1, 2, none⟩ = some v2
theorem S2.up {w W W' : World} {s t : Int} {v : Value} {s2 t2 : Int} {v2 : Value} (h : S2 w W s t v s2 t2 v2) (hb : Below W.heap.size W W') : S2 w W' s t v s2 t2 v2 :=
  ⟨Below.on h.bel hb, cell_up hb h.a0, cell_up hb h.a1, cell_up hb h.a2, cell_up hb h.b0, cell_up hb h.b1, cell_up hb h.b2⟩
theorem s2_new (w : World) (s t : Int) (v : Value) (s2 t2 : Int) (v2 : Value) : S2 w ((w.alloc (Obj.cells #[.int .i64 s, .int .i64 t, v] 29)).alloc (Obj.cells #[.int .i64 s2, .int .i64 t2, v2] 29)) s t v s2 t2 v2 := by
  refine ⟨ba (ba (Below.refl _ _) _) _, ?_, ?_, ?_, ?_, ?_, ?_⟩ <;> simp [go_sem]

set_option maxRecDepth 10000 in
set_option maxHeartbeats 4000000 in
theorem shared_try (s t : Int) (ao : Option Addr) (n c : Nat) (l : List En) (s2 t2 : Int) (bo : Option Addr) (n2 c2 : Nat) (l2 : List En) (w : World) (hr : Reads w (.slice ao n c) l) (hc : n ≤ c) (hn : n ≤ 1048576) (hz : SizedE l) (hr2 : Reads w (.slice bo n2 c2) l2) (hc2 : n2 ≤ c2) (hn2 : n2 ≤ 1048576) (hz2 : SizedE l2) :
    Calls Try.prog 27 #[.agg #[.int .i64 s, .int .i64 t, .slice ao n c], .agg #[.int .i64 s2, .int .i64 t2, .slice bo n2 c2]] w fun e w' => e = .returned (.int .i64 (sharedL s t l s2 t2 l2)) ∧ Below w.heap.size w w' := by
  have HR : Hid (Reads w (.slice ao n c) l) := hr
  have HN : Hid (n = l.length) := hr.len
  have HZ : Hid (SizedE l) := hz
  have HR2 : Hid (Reads w (.slice bo n2 c2) l2) := hr2
  have HN2 : Hid (n2 = l2.length) := hr2.len
  have HZ2 : Hid (SizedE l2) := hz2
  clear hr hz hr2 hz2
  obtain ⟨q, HQ⟩ : ∃ q, Hid (okL s t l = q) := ⟨_, rfl⟩
  obtain ⟨q2, HQ2⟩ : ∃ q, Hid (okL s2 t2 l2 = q) := ⟨_, rfl⟩
  obtain ⟨ans, HA⟩ : ∃ a, Hid (sharedL s t l s2 t2 l2 = a) := ⟨_, rfl⟩
  rw [HA.out]
  go_enter Try.func27, Try.ntmps27
  go_wp2_with fail
  have L0 := s2_new w s t (.slice ao n c) s2 t2 (.slice bo n2 c2)
  obtain ⟨W, hW⟩ : ∃ W, (w.alloc (Obj.cells #[.int .i64 s, .int .i64 t, .slice ao n c] 29)).alloc (Obj.cells #[.int .i64 s2, .int .i64 t2, .slice bo n2 c2] 29) = W := ⟨_, rfl⟩
  rw [hW] at L0 ⊢
  clear hW
  refine (logOk_any (HR.out.below L0.bel) (by rw [← HN.out]; omega) HZ.out).mono ?_
  rintro e w1 ⟨rfl, hb1⟩
  rw [HQ.out]
  have L1 := L0.up hb1
  clear hb1 L0
  cases q with
  | false =>
    go_wp2
    go_ret
    exact ⟨by rw [← HA.out, shared_no1 HQ.out]; rfl, L1.bel⟩
  | true =>
  have b0 := L1.b0
  have b1 := L1.b1
  have b2 := L1.b2
  go_wp2_with fail
  refine (logOk_any (HR2.out.below L1.bel) (by rw [← HN2.out]; omega) HZ2.out).mono ?_
  rintro e w2 ⟨rfl, hb2⟩
  rw [HQ2.out]
  have L2 := L1.up hb2
  clear hb2 L1 b0 b1 b2
  cases q2 with
  | false =>
    go_wp2
    go_ret
    exact ⟨by rw [← HA.out, shared_no2 HQ2.out]; rfl, L2.bel⟩
  | true =>
  obtain ⟨p0, p1, p2, p3, p4, p5, -⟩ := okL_all HQ.out
  obtain ⟨r0, r1, r2, r3, r4, r5, -⟩ := okL_all HQ2.out
  have H4 : Hid (l.length ≤ 60) := p4
  rw [← HN.out] at p4 p5
  rw [← HN2.out] at r4 r5
  obtain ⟨m, hm⟩ : ∃ m, max s s2 = m := ⟨_, rfl⟩
  have hm0 : 0 ≤ m := by omega
  have hm1 : m ≤ 1000000 := by omega
  obtain ⟨y1, HY1⟩ : ∃ y, Hid (termL s t l m = y) := ⟨_, rfl⟩
  obtain ⟨y2, HY2⟩ : ∃ y, Hid (termL s2 t2 l2 m = y) := ⟨_, rfl⟩
  have a0 := L2.a0
  have a1 := L2.a1
  have a2 := L2.a2
  have b0 := L2.b0
  have b1 := L2.b1
  have b2 := L2.b2
  have q0 := Wd.cell a0
  have q1 := Wd.cell a1
  have q2 := Wd.cell a2
  have u0 := Wd.cell b0
  have u1 := Wd.cell b1
  have u2 := Wd.cell b2
  have H1 : Hid (∀ x : Wd w2, Calls Try.prog 17 #[.agg #[.int .i64 s, .int .i64 t, .slice ao n c], .int .i64 m] x.at' fun e w' => e = .returned (.int .i64 y1) ∧ Below x.at'.heap.size x.at' w') := fun x => by
    rw [← HY1.out]; exact logTerm_try _ _ _ _ _ _ l _ (HR.out.below (Below.on L2.bel x.ok)) p0 p1 p4 (by omega)
  have H2 : Hid (∀ x : Wd w2, Calls Try.prog 17 #[.agg #[.int .i64 s2, .int .i64 t2, .slice bo n2 c2], .int .i64 m] x.at' fun e w' => e = .returned (.int .i64 y2) ∧ Below x.at'.heap.size x.at' w') := fun x => by
    rw [← HY2.out]; exact logTerm_try _ _ _ _ _ _ l2 _ (HR2.out.below (Below.on L2.bel x.ok)) r0 r1 r4 (by omega)
  go_wp2
  refine wp_region_wd (by kernel_rfl) (by kernel_rfl) ?_
  repeat (go_big_quiet_step ((first | (go_at_call 17; refine calls_wd (v := .int .i64 y1) ?_; with_reducible exact H1.out _) | (go_at_call 17; refine calls_wd (v := .int .i64 y2) ?_; with_reducible exact H2.out _))))
  refine wpQuiet_nil ?_
  rintro _ ⟨y, rfl⟩
  have L3 := L2.up y.ok
  obtain ⟨w3, hw3⟩ : ∃ w3, y.at' = w3 := ⟨_, rfl⟩
  rw [hw3] at L3 ⊢
  clear hw3 y H1 H2 q0 q1 q2 u0 u1 u2 a0 a1 a2 b0 b1 b2 L2
  by_cases hy : y1 = y2
  rotate_left
  · go_wp2
    go_ret
    exact ⟨by rw [← HA.out, shared_no3 (by rw [hm, HY1.out, HY2.out]; exact hy)]; rfl, L3.bel⟩
  have HTT : Hid (termL s t l (max s s2) = termL s2 t2 l2 (max s s2)) := by show _ = _; rw [hm, HY1.out, HY2.out]; exact hy
  obtain ⟨g1, g2⟩ := has_both HQ.out HQ2.out HTT.out
  rw [hm] at g1 g2
  simp only [hasL, Bool.and_eq_true, decide_eq_true_eq] at g1 g2
  rw [← HN.out] at g1
  rw [← HN2.out] at g2
  obtain ⟨k1, hk1⟩ : ∃ k : Nat, m = s + k := ⟨(m - s).toNat, by omega⟩
  obtain ⟨k2, hk2⟩ : ∃ k : Nat, m = s2 + k := ⟨(m - s2).toNat, by omega⟩
  have HAN : Hid (ans = m + same (l.drop k1) (l2.drop k2)) := by
    show _ = _
    rw [← HA.out, shared_yes HQ.out HQ2.out HTT.out, hm, show (m - s).toNat = k1 by omega, show (m - s2).toNat = k2 by omega]
  have hkn1 : k1 ≤ n := by omega
  have hkn2 : k2 ≤ n2 := by omega
  obtain ⟨a1, m1, d1, hv1⟩ := (behV_reads (k := k1) HR.out).slice3
  obtain ⟨b1, m2, d2, hv2⟩ := (behV_reads (k := k2) HR2.out).slice3
  obtain ⟨D1, HD1⟩ : ∃ D, Hid (D = l.drop k1) := ⟨_, rfl⟩
  obtain ⟨D2, HD2⟩ : ∃ D, Hid (D = l2.drop k2) := ⟨_, rfl⟩
  rw [← HD1.out, ← HD2.out] at HAN
  have HRD1 : Hid (∀ W', Below w.heap.size w W' → Reads W' (.slice a1 m1 d1) D1) := fun W' hW' => by
    rw [HD1.out, ← hv1]; exact behV_reads (HR.out.below hW')
  have HRD2 : Hid (∀ W', Below w.heap.size w W' → Reads W' (.slice b1 m2 d2) D2) := fun W' hW' => by
    rw [HD2.out, ← hv2]; exact behV_reads (HR2.out.below hW')
  have hm1l : m1 = D1.length := (HRD1.out _ (Below.refl _ _)).len
  have hm2l : m2 = D2.length := (HRD2.out _ (Below.refl _ _)).len
  have hm1s : m1 ≤ 60 := by rw [hm1l, HD1.out]; simp; have := HN.out; omega
  have hm2s : m2 ≤ 60 := by rw [hm2l, HD2.out]; simp; have := HN2.out; omega
  have H3 : Hid (∀ x : Wd w3, Calls Try.prog 40 #[.agg #[.int .i64 s, .int .i64 t, .slice ao n c], .int .i64 m] x.at' fun e w' => e = .returned (.slice a1 m1 d1) ∧ Below x.at'.heap.size x.at' w') := fun x => by
    rw [← hv1, hk1]; exact behind_val s t ao n c k1 _ p4 hkn1 hc
  have H4' : Hid (∀ x : Wd w3, Calls Try.prog 40 #[.agg #[.int .i64 s2, .int .i64 t2, .slice bo n2 c2], .int .i64 m] x.at' fun e w' => e = .returned (.slice b1 m2 d2) ∧ Below x.at'.heap.size x.at' w') := fun x => by
    rw [← hv2, hk2]; exact behind_val s2 t2 bo n2 c2 k2 _ r4 hkn2 hc2
  have HL1 : Hid (m1 = D1.length) := hm1l
  have HL2 : Hid (m2 = D2.length) := hm2l
  clear hv1 hv2 g1 g2 hm1l hm2l hk1 hk2 hkn1 hkn2 HTT HY1 HY2
  have a0 := L3.a0
  have a1' := L3.a1
  have a2 := L3.a2
  have b0 := L3.b0
  have b1' := L3.b1
  have b2 := L3.b2
  have q0 := Wd.cell a0
  have q1 := Wd.cell a1'
  have q2 := Wd.cell a2
  have u0 := Wd.cell b0
  have u1 := Wd.cell b1'
  have u2 := Wd.cell b2
  go_wp2
  refine wp_region_wd (by kernel_rfl) (by kernel_rfl) ?_
  repeat (go_big_quiet_step ((first | (go_at_call 40; refine calls_wd (v := .slice a1 m1 d1) ?_; with_reducible exact H3.out _) | (go_at_call 40; refine calls_wd (v := .slice b1 m2 d2) ?_; with_reducible exact H4'.out _))))
  refine wpQuiet_nil ?_
  rintro _ ⟨y, rfl⟩
  have L4 := L3.up y.ok
  obtain ⟨w4, hw4⟩ : ∃ w4, y.at' = w4 := ⟨_, rfl⟩
  rw [hw4] at L4 ⊢
  have B4 := L4.bel
  clear hw4 y H3 H4' q0 q1 q2 u0 u1 u2 a0 a1' a2 b0 b1' b2 L3 L4
  go_wp2
  go_loopw [8] (fun i wr => ∃ k : Nat, i = .int .i64 k ∧ k ≤ m1 ∧ k ≤ m2 ∧ Hid (same D1 D2 = k + same (D1.drop k) (D2.drop k)) ∧ Below w.heap.size w wr) (fun i _ => m1 - (intOf i).toNat)
  case atStart => exact ⟨0, rfl, Nat.zero_le _, Nat.zero_le _, by show _ = _; simp, B4⟩
  case round =>
    obtain ⟨k, rfl, hk1, hk2, HE, hbel⟩ := hrel
    by_cases hlt : k < m1 ∧ k < m2
    · obtain ⟨x, hx⟩ : ∃ f, D1[k]? = some f := ⟨_, List.getElem?_eq_getElem (by rw [← HL1.out]; exact hlt.1)⟩
      obtain ⟨z, hz⟩ : ∃ f, D2[k]? = some f := ⟨_, List.getElem?_eq_getElem (by rw [← HL2.out]; exact hlt.2)⟩
      have HST : Hid (same (D1.drop k) (D2.drop k) = if eqEn x z then same (D1.drop (k + 1)) (D2.drop (k + 1)) + 1 else 0) := same_step hx hz
      obtain ⟨b, o, rfl, hb, c0, c1, c2'⟩ := en_at (HRD1.out _ hbel) hx
      obtain ⟨b', o', rfl, hb', e0, e1, e2⟩ := en_at (HRD2.out _ hbel) hz
      clear hx hz
      obtain ⟨hl1, hl2⟩ := hlt
      have hmin : (k : Int) < min (m1 : Int) (m2 : Int) := by omega
      have hg : decide ((k : Int) < min (m1 : Int) (m2 : Int)) = true := decide_eq_true hmin
      obtain ⟨q, HQE⟩ : ∃ q, Hid (eqEn x z = q) := ⟨_, rfl⟩
      have he : ∀ wx, (binOp .eql 42 (.agg #[.int .i64 x.term, .int .i64 x.kind, .string x.data]) (.agg #[.int .i64 z.term, .int .i64 z.kind, .string z.data])).run Try.prog wx = .ok (.bool q) wx := fun wx => by
        rw [← HQE.out]; exact run_eq_en x z wx
      cases q with
      | true =>
        have HE2 : Hid (same D1 D2 = (k + 1) + same (D1.drop (k + 1)) (D2.drop (k + 1))) := by
          show _ = _
          rw [HE.out, HST.out, HQE.out, if_pos rfl]; omega
        go_wp2
        go_quiet (fail)
        go_wp2
        go_roundw
        case rel => exact ⟨k + 1, by go_num, by omega, by omega, HE2, bdrewN hbel _⟩
        case measure => simp [intOf]; omega
      | false =>
        have HE2 : Hid (ans = m + k) := by
          show _ = _
          rw [HAN.out, HE.out, HST.out, HQE.out]; simp
        go_wp2
        go_quiet (fail)
        go_wp2
        go_ret
        exact ⟨by rw [HE2.out]; rfl, bdrewN hbel _⟩
    · have hg : decide ((k : Int) < min (m1 : Int) (m2 : Int)) = false := decide_eq_false (by omega)
      have HE2 : Hid (ans = m + k) := by
        show _ = _
        rw [HAN.out, HE.out, same_end (by rw [← HL1.out, ← HL2.out]; omega)]; simp
      clear hlt
      go_wp2
      go_quiet (fail)
      go_wp2
      go_ret
      exact ⟨by rw [HE2.out]; rfl, bdrewN hbel _⟩
end Go.Proofs.Ytnapjkpkhdbalaa
