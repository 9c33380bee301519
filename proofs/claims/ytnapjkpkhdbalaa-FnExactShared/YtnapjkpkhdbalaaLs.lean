/-
  The log behind an index, as the specification tells it: the walk.
-/
import Derived.Test.YtnapjkpkhdbalaaLb
import Derived.Test.YtnapjkpkhdbalaaAr
namespace Go.Proofs.Ytnapjkpkhdbalaa
open Go Go.RowKit

set_option maxRecDepth 10000 in
set_option maxHeartbeats 2000000 in
theorem specLogBehind_try (s t base term : Int) (ao : Option Addr) (n c : Nat) (l : List En) (w : World) (hr : Reads w (.slice ao n c) l) (hc : n ≤ c) (hn : n ≤ 1048576) (hz : SizedE l) :
    Calls Try.prog 24 #[.agg #[.int .i64 s, .int .i64 t, .slice ao n c], .int .i64 base, .int .i64 term] w fun e w' => ∃ v, e = .returned (.agg #[.int .i64 base, .int .i64 term, v]) ∧ ownsR w' w.heap.size 42 v (behindL s t l base term) ∧ Below w.heap.size w w' := by
  have HR : Hid (Reads w (.slice ao n c) l) := hr
  have HN : Hid (n = l.length) := hr.len
  have HZ : Hid (SizedE l) := hz
  clear hr hz
  obtain ⟨q, HQ⟩ : ∃ q, Hid (okL s t l = q) := ⟨_, rfl⟩
  go_enter Try.func24, Try.ntmps24
  go_wp2_with fail
  have L0 := b3_new w s t base term (.slice ao n c)
  obtain ⟨W, hW⟩ : ∃ W, ((w.alloc (Obj.cells #[.int .i64 s, .int .i64 t, .slice ao n c] 29)).alloc (Obj.cells #[.int .i64 0, .int .i64 0, .slice none 0 0] 29)).alloc (Obj.cells #[.int .i64 base, .int .i64 term, .slice none 0 0] 29) = W := ⟨_, rfl⟩
  rw [hW] at L0 ⊢
  clear hW
  have H1 : Hid (∀ x : Wd W, Calls Try.prog 10 #[.agg #[.int .i64 s, .int .i64 t, .slice ao n c]] x.at' fun e w' => e = .returned (.bool q) ∧ Below x.at'.heap.size x.at' w') := fun x => by
    rw [← HQ.out]; exact specLogOk_any (HR.out.below (Below.on L0.bel x.ok)) (by rw [← HN.out]; omega) HZ.out
  cases q with
  | false =>
    have HF : Hid (fitsL s t l base term = false) := by show fitsL s t l base term = false; unfold fitsL; rw [HQ.out]; rfl
    have a0 := L0.a0
    have a1 := L0.a1
    have a2 := L0.a2
    have q0 := Wd.cell a0
    have q1 := Wd.cell a1
    have q2 := Wd.cell a2
    go_wp2
    refine wp_region_wd (by kernel_rfl) (by kernel_rfl) ?_
    repeat (go_big_quiet_step ((first | (go_at_call 10; refine calls_wd (v := .bool false) ?_; exact H1.out _))))
    refine wpQuiet_nil ?_
    rintro _ ⟨y, rfl⟩
    have L1 := L0.up y.ok
    clear q0 q1 q2 a0 a1 a2 L0
    have a0 := L1.a0
    have a1 := L1.a1
    have a2 := L1.a2
    have r0 := L1.r0
    have r1 := L1.r1
    have r2 := L1.r2
    have b0 := L1.b0
    have b1 := L1.b1
    have b2 := L1.b2
    have f0 := L1.f0
    have f1 := L1.f1
    have f2 := L1.f2
    have f3 := L1.f3
    go_wp2
    refine bodyPost_ret (ret_log (a := .int .i64 base) (b := .int .i64 term) (c := .slice none 0 0) rfl rfl (by simp [go_sem, r0]) (by simp [go_sem, r1]) (by simp [go_sem, r2])) rfl ⟨_, rfl, ?_, ?_⟩
    · rw [behindL_no HF.out]
      exact ownsR_nil _ _ _
    · refine Below.setCell (Below.setCell (Below.setCell L1.bel ?_ _) ?_ _) ?_ _ <;> simp
  | true =>
    obtain ⟨h0, h1, h2, h3, h4, h5, -⟩ := okL_all HQ.out
    rw [← HN.out] at h4 h5
    cases hh : hasL s n base with
    | false =>
      have HF : Hid (fitsL s t l base term = false) := by show fitsL s t l base term = false; unfold fitsL; rw [← HN.out, hh]; simp
      have H2 : Hid (∀ w : World, Calls Try.prog 29 #[.int .i64 base, .int .i64 s, .int .i64 (s + n)] w fun e w' => e = .returned (.bool false) ∧ w' = w) := fun w => by
        rw [← hh]; exact in_any _ _ _ _
      clear hh
      have a0 := L0.a0
      have a1 := L0.a1
      have a2 := L0.a2
      have q0 := Wd.cell a0
      have q1 := Wd.cell a1
      have q2 := Wd.cell a2
      go_wp2
      refine wp_region_wd (by kernel_rfl) (by kernel_rfl) ?_
      repeat (go_big_quiet_step ((first | (go_at_call 10; refine calls_wd (v := .bool true) ?_; exact H1.out _) | (go_at_call 34; refine calls_wd (v := .int .i64 (s + n)) ?_; exact l06Last_any _ _ _ _ _ _ h0 h1 h4) | (go_at_call 29; refine calls_wd_same (v := .bool false) ?_; exact H2.out _))))
      refine wpQuiet_nil ?_
      rintro _ ⟨y, rfl⟩
      have L1 := L0.up y.ok
      clear q0 q1 q2 a0 a1 a2 L0
      have a0 := L1.a0
      have a1 := L1.a1
      have a2 := L1.a2
      have r0 := L1.r0
      have r1 := L1.r1
      have r2 := L1.r2
      have b0 := L1.b0
      have b1 := L1.b1
      have b2 := L1.b2
      have f0 := L1.f0
      have f1 := L1.f1
      have f2 := L1.f2
      have f3 := L1.f3
      go_wp2
      refine bodyPost_ret (ret_log (a := .int .i64 base) (b := .int .i64 term) (c := .slice none 0 0) rfl rfl (by simp [go_sem, r0]) (by simp [go_sem, r1]) (by simp [go_sem, r2])) rfl ⟨_, rfl, ?_, ?_⟩
      · rw [behindL_no HF.out]
        exact ownsR_nil _ _ _
      · refine Below.setCell (Below.setCell (Below.setCell L1.bel ?_ _) ?_ _) ?_ _ <;> simp
    | true =>
      have HH : Hid (hasL s l.length base = true) := by rw [← HN.out]; exact hh
      have H2 : Hid (∀ w : World, Calls Try.prog 29 #[.int .i64 base, .int .i64 s, .int .i64 (s + n)] w fun e w' => e = .returned (.bool true) ∧ w' = w) := fun w => by
        rw [← hh]; exact in_any _ _ _ _
      clear hh
      obtain ⟨y0, HY⟩ : ∃ y, Hid (termL s t l base = y) := ⟨_, rfl⟩
      have H3 : Hid (∀ x : Wd W, Calls Try.prog 16 #[.agg #[.int .i64 s, .int .i64 t, .slice ao n c], .int .i64 base] x.at' fun e w' => e = .returned (.int .i64 y0) ∧ Below x.at'.heap.size x.at' w') := fun x => by
        rw [← HY.out]; exact specLogTerm_try _ _ _ _ _ _ l _ (HR.out.below (Below.on L0.bel x.ok)) h0 h1 h4
      by_cases hy : y0 = term
      · have HF : Hid (fitsL s t l base term = true) := by show fitsL s t l base term = true; unfold fitsL; rw [HQ.out, HH.out, HY.out, decide_eq_true hy]; rfl
        subst hy
        have hh := HH.out
        rw [← HN.out] at hh
        simp only [hasL, Bool.and_eq_true, decide_eq_true_eq] at hh
        obtain ⟨k, hk⟩ : ∃ k : Nat, base = s + (k : Int) := ⟨(base - s).toNat, by omega⟩
        have HK : Hid ((base - s).toNat = k) := by show (base - s).toNat = k; omega
        have e1 : base - s = (k : Int) := by omega
        have hkl : k ≤ n := by omega
        clear hh hk
        have a0 := L0.a0
        have a1 := L0.a1
        have a2 := L0.a2
        have q0 := Wd.cell a0
        have q1 := Wd.cell a1
        have q2 := Wd.cell a2
        go_wp2
        refine wp_region_wd (by kernel_rfl) (by kernel_rfl) ?_
        repeat (go_big_quiet_step ((first | (go_at_call 10; refine calls_wd (v := .bool true) ?_; exact H1.out _) | (go_at_call 34; refine calls_wd (v := .int .i64 (s + n)) ?_; exact l06Last_any _ _ _ _ _ _ h0 h1 h4) | (go_at_call 29; refine calls_wd_same (v := .bool true) ?_; exact H2.out _) | (go_at_call 16; refine calls_wd (v := .int .i64 y0) ?_; exact H3.out _))))
        refine wpQuiet_nil ?_
        rintro _ ⟨y, rfl⟩
        have L1 := L0.up y.ok
        clear q0 q1 q2 a0 a1 a2 L0
        have a0 := L1.a0
        have a1 := L1.a1
        have a2 := L1.a2
        have r0 := L1.r0
        have r1 := L1.r1
        have r2 := L1.r2
        have b0 := L1.b0
        have b1 := L1.b1
        have b2 := L1.b2
        have f0 := L1.f0
        have f1 := L1.f1
        have f2 := L1.f2
        have f3 := L1.f3
        have z0 : w.heap.size < y.at'.heap.size := by have := L1.size; omega
        have z1 : w.heap.size + 1 < y.at'.heap.size := by have := L1.size; omega
        have z2 : w.heap.size + 1 + 1 < y.at'.heap.size := by have := L1.size; omega
        have HD : Hid (behindL s t l base y0 = l.drop k) := by show behindL s t l base y0 = _; rw [behindL_yes HF.out, HK.out]
        have hbn : Below w.heap.size w (y.at'.alloc (.cells #[] 42)) := ba L1.bel _
        have HL : Hid (([] : List En).length + (l.drop k).length ≤ 1048577) := by show _ ≤ _; have := HN.out; simp; omega
        clear a0 r0 r1 r2 b0 b1 b2 f0 f1 f2 f3 a1
        have a0 := L1.a0
        by_cases hck : c = k
        · have hnk : n = k := by omega
          subst hnk
          subst hck
          have HV : Hid (Reads (y.at'.alloc (.cells #[] 42)) (.slice ao 0 0) (l.drop c)) := by
            show Reads _ _ _
            rw [List.drop_eq_nil_of_le (by rw [← HN.out]; omega)]; exact reads_none _ _ _
          go_wp2_with (at_builtin; refine wpList_append_recs rfl (.tmp 28) (.tmp 35) 27 rfl y.at'.heap.size 42 _ 32 underEn infoEn rfl _ (.slice ao 0 0) [] (l.drop c) (by rfl) (by rfl) (ownsR_made0 y.at' y.at'.heap.size 42 (Nat.le_refl _)) HV.out (en_one _) HL.out (by decide) (by simp) ?_; intro v5 w5 ho5 hg5; have hb5 : Below y.at'.heap.size y.at' w5 := (ba (Below.refl _ _) _).grown hg5 (by simp) (fun k hk => by cases hk; exact Nat.le_refl _); obtain ⟨a5, n5, c5, rfl⟩ := ho5.slice3; have L5 := L1.up hb5; have a0 := L5.a0; have r0 := L5.r0; have r1 := L5.r1; have r2 := L5.r2; have b0 := L5.b0; have b1 := L5.b1; have b2 := L5.b2; have f0 := L5.f0; have f1 := L5.f1; have f2 := L5.f2; have f3 := L5.f3)
          refine bodyPost_ret (ret_log (a := .int .i64 base) (b := .int .i64 y0) (c := .slice a5 n5 c5) rfl rfl (by simp [go_sem, r0]) (by simp [go_sem, r1]) (by simp [go_sem, r2])) rfl ⟨_, rfl, ?_, ?_⟩
          · rw [HD.out]
            refine ownsR.mono (ownsR.setBelow (ownsR.setBelow (ownsR.setBelow (ownsR.setBelow ho5 ?_ _) ?_ _) ?_ _) ?_ _) ?_ <;> (try simp) <;> omega
          · refine Below.setCell (Below.setCell (Below.setCell (Below.setCell L5.bel ?_ _) ?_ _) ?_ _) ?_ _ <;> simp <;> omega
        · have HV : Hid (Reads (y.at'.alloc (.cells #[] 42)) (.slice (ao.map fun x => x.add (k * 3)) (n - k) (c - k)) (l.drop k)) := (HR.out.below hbn).drop k _
          go_wp2_with (at_builtin; refine wpList_append_recs rfl (.tmp 28) (.tmp 35) 27 rfl y.at'.heap.size 42 _ 32 underEn infoEn rfl _ (.slice (ao.map fun x => x.add (k * 3)) (n - k) (c - k)) [] (l.drop k) (by rfl) (by rfl) (ownsR_made0 y.at' y.at'.heap.size 42 (Nat.le_refl _)) HV.out (en_one _) HL.out (by decide) (by simp) ?_; intro v5 w5 ho5 hg5; have hb5 : Below y.at'.heap.size y.at' w5 := (ba (Below.refl _ _) _).grown hg5 (by simp) (fun k hk => by cases hk; exact Nat.le_refl _); obtain ⟨a5, n5, c5, rfl⟩ := ho5.slice3; have L5 := L1.up hb5; have a0 := L5.a0; have r0 := L5.r0; have r1 := L5.r1; have r2 := L5.r2; have b0 := L5.b0; have b1 := L5.b1; have b2 := L5.b2; have f0 := L5.f0; have f1 := L5.f1; have f2 := L5.f2; have f3 := L5.f3)
          refine bodyPost_ret (ret_log (a := .int .i64 base) (b := .int .i64 y0) (c := .slice a5 n5 c5) rfl rfl (by simp [go_sem, r0]) (by simp [go_sem, r1]) (by simp [go_sem, r2])) rfl ⟨_, rfl, ?_, ?_⟩
          · rw [HD.out]
            refine ownsR.mono (ownsR.setBelow (ownsR.setBelow (ownsR.setBelow (ownsR.setBelow ho5 ?_ _) ?_ _) ?_ _) ?_ _) ?_ <;> (try simp) <;> omega
          · refine Below.setCell (Below.setCell (Below.setCell (Below.setCell L5.bel ?_ _) ?_ _) ?_ _) ?_ _ <;> simp <;> omega
      · have HF : Hid (fitsL s t l base term = false) := by show fitsL s t l base term = false; unfold fitsL; rw [HY.out, decide_eq_false hy]; simp
        have a0 := L0.a0
        have a1 := L0.a1
        have a2 := L0.a2
        have q0 := Wd.cell a0
        have q1 := Wd.cell a1
        have q2 := Wd.cell a2
        go_wp2
        refine wp_region_wd (by kernel_rfl) (by kernel_rfl) ?_
        repeat (go_big_quiet_step ((first | (go_at_call 10; refine calls_wd (v := .bool true) ?_; exact H1.out _) | (go_at_call 34; refine calls_wd (v := .int .i64 (s + n)) ?_; exact l06Last_any _ _ _ _ _ _ h0 h1 h4) | (go_at_call 29; refine calls_wd_same (v := .bool true) ?_; exact H2.out _) | (go_at_call 16; refine calls_wd (v := .int .i64 y0) ?_; exact H3.out _))))
        refine wpQuiet_nil ?_
        rintro _ ⟨y, rfl⟩
        have L1 := L0.up y.ok
        clear q0 q1 q2 a0 a1 a2 L0
        have a0 := L1.a0
        have a1 := L1.a1
        have a2 := L1.a2
        have r0 := L1.r0
        have r1 := L1.r1
        have r2 := L1.r2
        have b0 := L1.b0
        have b1 := L1.b1
        have b2 := L1.b2
        have f0 := L1.f0
        have f1 := L1.f1
        have f2 := L1.f2
        have f3 := L1.f3
        go_wp2
        refine bodyPost_ret (ret_log (a := .int .i64 base) (b := .int .i64 term) (c := .slice none 0 0) rfl rfl (by simp [go_sem, r0]) (by simp [go_sem, r1]) (by simp [go_sem, r2])) rfl ⟨_, rfl, ?_, ?_⟩
        · rw [behindL_no HF.out]
          exact ownsR_nil _ _ _
        · refine Below.setCell (Below.setCell (Below.setCell L1.bel ?_ _) ?_ _) ?_ _ <;> simp
end Go.Proofs.Ytnapjkpkhdbalaa
