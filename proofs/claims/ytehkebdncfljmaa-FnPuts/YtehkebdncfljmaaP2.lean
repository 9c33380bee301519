/-
  The log behind an index, as the specification tells it: the walk. An entry put into a log: what is told, and what lies there: small facts. An entry put into a log, as the program does it: the walk. A box that lies there while rows are appended to: small facts. An entry put into a log, as the specification tells it: the walk. The law on an entry that is put into a drawn log: the walk.
-/
import Derived.Test.YtehkebdncfljmaaP1
import Derived.Test.YtehkebdncfljmaaME4
import Derived.Test.YtehkebdncfljmaaSv
import Derived.Test.YtehkebdncfljmaaME11
namespace Go.Proofs.Ytehkebdncfljmaa
open Go Go.RowKit

set_option maxRecDepth 10000 in
set_option maxHeartbeats 2000000 in
theorem specLogBehind_try (s t base term : Int) (ao : Option Addr) (n c : Nat) (l : List En) (w : World) (hr : Reads w (.slice ao n c) l) (hc : n ≤ c) (hn : n ≤ 1048576) (hz : SizedE l) :
    Calls Try.prog 67 #[.agg #[.int .i64 s, .int .i64 t, .slice ao n c], .int .i64 base, .int .i64 term] w fun e w' => ∃ v, e = .returned (.agg #[.int .i64 base, .int .i64 term, v]) ∧ ownsR w' w.heap.size 25 v (behindL s t l base term) ∧ Below w.heap.size w w' := by
  have HR : Hid (Reads w (.slice ao n c) l) := hr
  have HN : Hid (n = l.length) := hr.len
  have HZ : Hid (SizedE l) := hz
  clear hr hz
  obtain ⟨q, HQ⟩ : ∃ q, Hid (okL s t l = q) := ⟨_, rfl⟩
  go_enter Try.func67, Try.ntmps67
  go_wp2_with fail
  have L0 := b3_new w s t base term (.slice ao n c)
  obtain ⟨W, hW⟩ : ∃ W, ((w.alloc (Obj.cells #[.int .i64 s, .int .i64 t, .slice ao n c] 41)).alloc (Obj.cells #[.int .i64 0, .int .i64 0, .slice none 0 0] 41)).alloc (Obj.cells #[.int .i64 base, .int .i64 term, .slice none 0 0] 41) = W := ⟨_, rfl⟩
  rw [hW] at L0 ⊢
  clear hW
  have H1 : Hid (∀ x : Wd W, Calls Try.prog 30 #[.agg #[.int .i64 s, .int .i64 t, .slice ao n c]] x.at' fun e w' => e = .returned (.bool q) ∧ Below x.at'.heap.size x.at' w') := fun x => by
    rw [← HQ.out]; exact specLogOk_any (HR.out.below (Below.on L0.bel x.ok)) (by rw [← HN.out]; omega) HZ.out
  cases q with
  | false =>
    have HF : Hid (fitsL s t l base term = false) := by show fitsL s t l base term = false; unfold fitsL; rw [HQ.out]; rfl
    have a0 := L0.a0
    have a1 := L0.a1
    have a2 := L0.a2
    have q0 := Wd.cell a0
    have q1 := Wd.cell a1
    have q2 := Wd.cell a2
    go_wp2
    refine wp_region_wd (by kernel_rfl) (by kernel_rfl) ?_
    repeat (go_big_quiet_step ((first | (go_at_call 30; refine calls_wd (v := .bool false) ?_; exact H1.out _))))
    refine wpQuiet_nil ?_
    rintro _ ⟨y, rfl⟩
    have L1 := L0.up y.ok
    clear q0 q1 q2 a0 a1 a2 L0
    have a0 := L1.a0
    have a1 := L1.a1
    have a2 := L1.a2
    have r0 := L1.r0
    have r1 := L1.r1
    have r2 := L1.r2
    have b0 := L1.b0
    have b1 := L1.b1
    have b2 := L1.b2
    have f0 := L1.f0
    have f1 := L1.f1
    have f2 := L1.f2
    have f3 := L1.f3
    go_wp2
    refine bodyPost_ret (ret_log (a := .int .i64 base) (b := .int .i64 term) (c := .slice none 0 0) rfl rfl (by simp [go_sem, r0]) (by simp [go_sem, r1]) (by simp [go_sem, r2])) rfl ⟨_, rfl, ?_, ?_⟩
    · rw [behindL_no HF.out]
      exact ownsR_nil _ _ _
    · refine Below.setCell (Below.setCell (Below.setCell L1.bel ?_ _) ?_ _) ?_ _ <;> simp
  | true =>
    obtain ⟨h0, h1, h2, h3, h4, h5, -⟩ := okL_all HQ.out
    rw [← HN.out] at h4 h5
    cases hh : hasL s n base with
    | false =>
      have HF : Hid (fitsL s t l base term = false) := by show fitsL s t l base term = false; unfold fitsL; rw [← HN.out, hh]; simp
      have H2 : Hid (∀ w : World, Calls Try.prog 38 #[.int .i64 base, .int .i64 s, .int .i64 (s + n)] w fun e w' => e = .returned (.bool false) ∧ w' = w) := fun w => by
        rw [← hh]; exact in_any _ _ _ _
      clear hh
      have a0 := L0.a0
      have a1 := L0.a1
      have a2 := L0.a2
      have q0 := Wd.cell a0
      have q1 := Wd.cell a1
      have q2 := Wd.cell a2
      go_wp2
      refine wp_region_wd (by kernel_rfl) (by kernel_rfl) ?_
      repeat (go_big_quiet_step ((first | (go_at_call 30; refine calls_wd (v := .bool true) ?_; exact H1.out _) | (go_at_call 53; refine calls_wd (v := .int .i64 (s + n)) ?_; exact l06Last_any _ _ _ _ _ _ h0 h1 h4) | (go_at_call 38; refine calls_wd_same (v := .bool false) ?_; exact H2.out _))))
      refine wpQuiet_nil ?_
      rintro _ ⟨y, rfl⟩
      have L1 := L0.up y.ok
      clear q0 q1 q2 a0 a1 a2 L0
      have a0 := L1.a0
      have a1 := L1.a1
      have a2 := L1.a2
      have r0 := L1.r0
      have r1 := L1.r1
      have r2 := L1.r2
      have b0 := L1.b0
      have b1 := L1.b1
      have b2 := L1.b2
      have f0 := L1.f0
      have f1 := L1.f1
      have f2 := L1.f2
      have f3 := L1.f3
      go_wp2
      refine bodyPost_ret (ret_log (a := .int .i64 base) (b := .int .i64 term) (c := .slice none 0 0) rfl rfl (by simp [go_sem, r0]) (by simp [go_sem, r1]) (by simp [go_sem, r2])) rfl ⟨_, rfl, ?_, ?_⟩
      · rw [behindL_no HF.out]
        exact ownsR_nil _ _ _
      · refine Below.setCell (Below.setCell (Below.setCell L1.bel ?_ _) ?_ _) ?_ _ <;> simp
    | true =>
      have HH : Hid (hasL s l.length base = true) := by rw [← HN.out]; exact hh
      have H2 : Hid (∀ w : World, Calls Try.prog 38 #[.int .i64 base, .int .i64 s, .int .i64 (s + n)] w fun e w' => e = .returned (.bool true) ∧ w' = w) := fun w => by
        rw [← hh]; exact in_any _ _ _ _
      clear hh
      obtain ⟨y0, HY⟩ : ∃ y, Hid (termL s t l base = y) := ⟨_, rfl⟩
      have H3 : Hid (∀ x : Wd W, Calls Try.prog 52 #[.agg #[.int .i64 s, .int .i64 t, .slice ao n c], .int .i64 base] x.at' fun e w' => e = .returned (.int .i64 y0) ∧ Below x.at'.heap.size x.at' w') := fun x => by
        rw [← HY.out]; exact specLogTerm_try _ _ _ _ _ _ l _ (HR.out.below (Below.on L0.bel x.ok)) h0 h1 h4
      by_cases hy : y0 = term
      · have HF : Hid (fitsL s t l base term = true) := by show fitsL s t l base term = true; unfold fitsL; rw [HQ.out, HH.out, HY.out, decide_eq_true hy]; rfl
        subst hy
        have hh := HH.out
        rw [← HN.out] at hh
        simp only [hasL, Bool.and_eq_true, decide_eq_true_eq] at hh
        obtain ⟨k, hk⟩ : ∃ k : Nat, base = s + (k : Int) := ⟨(base - s).toNat, by omega⟩
        have HK : Hid ((base - s).toNat = k) := by show (base - s).toNat = k; omega
        have e1 : base - s = (k : Int) := by omega
        have hkl : k ≤ n := by omega
        clear hh hk
        have a0 := L0.a0
        have a1 := L0.a1
        have a2 := L0.a2
        have q0 := Wd.cell a0
        have q1 := Wd.cell a1
        have q2 := Wd.cell a2
        go_wp2
        refine wp_region_wd (by kernel_rfl) (by kernel_rfl) ?_
        repeat (go_big_quiet_step ((first | (go_at_call 30; refine calls_wd (v := .bool true) ?_; exact H1.out _) | (go_at_call 53; refine calls_wd (v := .int .i64 (s + n)) ?_; exact l06Last_any _ _ _ _ _ _ h0 h1 h4) | (go_at_call 38; refine calls_wd_same (v := .bool true) ?_; exact H2.out _) | (go_at_call 52; refine calls_wd (v := .int .i64 y0) ?_; exact H3.out _))))
        refine wpQuiet_nil ?_
        rintro _ ⟨y, rfl⟩
        have L1 := L0.up y.ok
        clear q0 q1 q2 a0 a1 a2 L0
        have a0 := L1.a0
        have a1 := L1.a1
        have a2 := L1.a2
        have r0 := L1.r0
        have r1 := L1.r1
        have r2 := L1.r2
        have b0 := L1.b0
        have b1 := L1.b1
        have b2 := L1.b2
        have f0 := L1.f0
        have f1 := L1.f1
        have f2 := L1.f2
        have f3 := L1.f3
        have z0 : w.heap.size < y.at'.heap.size := by have := L1.size; omega
        have z1 : w.heap.size + 1 < y.at'.heap.size := by have := L1.size; omega
        have z2 : w.heap.size + 1 + 1 < y.at'.heap.size := by have := L1.size; omega
        have HD : Hid (behindL s t l base y0 = l.drop k) := by show behindL s t l base y0 = _; rw [behindL_yes HF.out, HK.out]
        have hbn : Below w.heap.size w (y.at'.alloc (.cells #[] 25)) := ba L1.bel _
        have HL : Hid (([] : List En).length + (l.drop k).length ≤ 1048577) := by show _ ≤ _; have := HN.out; simp; omega
        clear a0 r0 r1 r2 b0 b1 b2 f0 f1 f2 f3 a1
        have a0 := L1.a0
        by_cases hck : c = k
        · have hnk : n = k := by omega
          subst hnk
          subst hck
          have HV : Hid (Reads (y.at'.alloc (.cells #[] 25)) (.slice ao 0 0) (l.drop c)) := by
            show Reads _ _ _
            rw [List.drop_eq_nil_of_le (by rw [← HN.out]; omega)]; exact reads_none _ _ _
          go_wp2_with (at_builtin; refine wpList_append_recs rfl (.tmp 28) (.tmp 35) 39 rfl y.at'.heap.size 25 _ 32 underEn infoEn rfl _ (.slice ao 0 0) [] (l.drop c) (by rfl) (by rfl) (ownsR_made0 y.at' y.at'.heap.size 25 (Nat.le_refl _)) HV.out (en_one _) HL.out (by decide) (by simp) ?_; intro v5 w5 ho5 hg5; have hb5 : Below y.at'.heap.size y.at' w5 := (ba (Below.refl _ _) _).grown hg5 (by simp) (fun k hk => by cases hk; exact Nat.le_refl _); obtain ⟨a5, n5, c5, rfl⟩ := ho5.slice3; have L5 := L1.up hb5; have a0 := L5.a0; have r0 := L5.r0; have r1 := L5.r1; have r2 := L5.r2; have b0 := L5.b0; have b1 := L5.b1; have b2 := L5.b2; have f0 := L5.f0; have f1 := L5.f1; have f2 := L5.f2; have f3 := L5.f3)
          refine bodyPost_ret (ret_log (a := .int .i64 base) (b := .int .i64 y0) (c := .slice a5 n5 c5) rfl rfl (by simp [go_sem, r0]) (by simp [go_sem, r1]) (by simp [go_sem, r2])) rfl ⟨_, rfl, ?_, ?_⟩
          · rw [HD.out]
            refine ownsR.mono (ownsR.setBelow (ownsR.setBelow (ownsR.setBelow (ownsR.setBelow ho5 ?_ _) ?_ _) ?_ _) ?_ _) ?_ <;> (try simp) <;> omega
          · refine Below.setCell (Below.setCell (Below.setCell (Below.setCell L5.bel ?_ _) ?_ _) ?_ _) ?_ _ <;> simp <;> omega
        · have HV : Hid (Reads (y.at'.alloc (.cells #[] 25)) (.slice (ao.map fun x => x.add (k * 3)) (n - k) (c - k)) (l.drop k)) := (HR.out.below hbn).drop k _
          go_wp2_with (at_builtin; refine wpList_append_recs rfl (.tmp 28) (.tmp 35) 39 rfl y.at'.heap.size 25 _ 32 underEn infoEn rfl _ (.slice (ao.map fun x => x.add (k * 3)) (n - k) (c - k)) [] (l.drop k) (by rfl) (by rfl) (ownsR_made0 y.at' y.at'.heap.size 25 (Nat.le_refl _)) HV.out (en_one _) HL.out (by decide) (by simp) ?_; intro v5 w5 ho5 hg5; have hb5 : Below y.at'.heap.size y.at' w5 := (ba (Below.refl _ _) _).grown hg5 (by simp) (fun k hk => by cases hk; exact Nat.le_refl _); obtain ⟨a5, n5, c5, rfl⟩ := ho5.slice3; have L5 := L1.up hb5; have a0 := L5.a0; have r0 := L5.r0; have r1 := L5.r1; have r2 := L5.r2; have b0 := L5.b0; have b1 := L5.b1; have b2 := L5.b2; have f0 := L5.f0; have f1 := L5.f1; have f2 := L5.f2; have f3 := L5.f3)
          refine bodyPost_ret (ret_log (a := .int .i64 base) (b := .int .i64 y0) (c := .slice a5 n5 c5) rfl rfl (by simp [go_sem, r0]) (by simp [go_sem, r1]) (by simp [go_sem, r2])) rfl ⟨_, rfl, ?_, ?_⟩
          · rw [HD.out]
            refine ownsR.mono (ownsR.setBelow (ownsR.setBelow (ownsR.setBelow (ownsR.setBelow ho5 ?_ _) ?_ _) ?_ _) ?_ _) ?_ <;> (try simp) <;> omega
          · refine Below.setCell (Below.setCell (Below.setCell (Below.setCell L5.bel ?_ _) ?_ _) ?_ _) ?_ _ <;> simp <;> omega
      · have HF : Hid (fitsL s t l base term = false) := by show fitsL s t l base term = false; unfold fitsL; rw [HY.out, decide_eq_false hy]; simp
        have a0 := L0.a0
        have a1 := L0.a1
        have a2 := L0.a2
        have q0 := Wd.cell a0
        have q1 := Wd.cell a1
        have q2 := Wd.cell a2
        go_wp2
        refine wp_region_wd (by kernel_rfl) (by kernel_rfl) ?_
        repeat (go_big_quiet_step ((first | (go_at_call 30; refine calls_wd (v := .bool true) ?_; exact H1.out _) | (go_at_call 53; refine calls_wd (v := .int .i64 (s + n)) ?_; exact l06Last_any _ _ _ _ _ _ h0 h1 h4) | (go_at_call 38; refine calls_wd_same (v := .bool true) ?_; exact H2.out _) | (go_at_call 52; refine calls_wd (v := .int .i64 y0) ?_; exact H3.out _))))
        refine wpQuiet_nil ?_
        rintro _ ⟨y, rfl⟩
        have L1 := L0.up y.ok
        clear q0 q1 q2 a0 a1 a2 L0
        have a0 := L1.a0
        have a1 := L1.a1
        have a2 := L1.a2
        have r0 := L1.r0
        have r1 := L1.r1
        have r2 := L1.r2
        have b0 := L1.b0
        have b1 := L1.b1
        have b2 := L1.b2
        have f0 := L1.f0
        have f1 := L1.f1
        have f2 := L1.f2
        have f3 := L1.f3
        go_wp2
        refine bodyPost_ret (ret_log (a := .int .i64 base) (b := .int .i64 term) (c := .slice none 0 0) rfl rfl (by simp [go_sem, r0]) (by simp [go_sem, r1]) (by simp [go_sem, r2])) rfl ⟨_, rfl, ?_, ?_⟩
        · rw [behindL_no HF.out]
          exact ownsR_nil _ _ _
        · refine Below.setCell (Below.setCell (Below.setCell L1.bel ?_ _) ?_ _) ?_ _ <;> simp
end Go.Proofs.Ytehkebdncfljmaa

namespace Go.Proofs.Ytehkebdncfljmaa
open Go Go.RowKit

/-- Where an entry may be put. -/
def inP (s : Int) (n : Nat) (i : Int) : Bool := decide (s + 1 ≤ i) && decide (i ≤ s + n + 1)
def putsL (s : Int) (l : List En) (i : Int) (e : En) : List En := l.take (i - s - 1).toNat ++ [e]
def putB (s t : Int) (l : List En) (i : Int) (e : En) : Bool := okL s t l && inP s l.length i && okL s t (putsL s l i e)
def putE (s t : Int) (l : List En) (i : Int) (e : En) : List En := if putB s t l i e then putsL s l i e else []
def putS (s t : Int) (l : List En) (i : Int) (e : En) : Int := if putB s t l i e then s else 0
def putT (s t : Int) (l : List En) (i : Int) (e : En) : Int := if putB s t l i e then t else 0
theorem putE_length (s t : Int) (l : List En) (i : Int) (e : En) : (putE s t l i e).length ≤ l.length + 1 := by
  unfold putE putsL; split <;> simp; omega
theorem lastI_in {s : Int} {l : List En} (h0 : 0 ≤ s) (h1 : s ≤ 1000000) (h4 : l.length ≤ 60) : lastI s l = s + l.length := by
  unfold lastI
  split
  · omega
  · unfold wrap64; omega
/-- What lies there in LogPut: the log's box, the entry's, and the answer's. -/
structure P3 (w W : World) (s t tm kd : Int) (d : ByteArray) (v : Value) : Prop where
  bel : Below w.heap.size w W
  size : w.heap.size + 3 ≤ W.heap.size
  a0 : W.cell? ⟨w.heap.size, 0, none⟩ = some (.int .i64 s)
  a1 : W.cell? ⟨w.heap.size, 1, none⟩ = some (.int .i64 t)
  a2 : W.cell? ⟨w.heap.size, 2, none⟩ = some v
  e0 : W.cell? ⟨w.heap.size + 1, 0, none⟩ = some (.int .i64 tm)
  e1 : W.cell? ⟨w.heap.size + 1, 1, none⟩ = some (.int .i64 kd)
  e2 : W.cell? ⟨w.heap.size + 1, 2, none⟩ = some (.string d)
  r0 : W.cell? ⟨w.heap.size + 1 + 1, 0, none⟩ = some (.int .i64 0)
  r1 : W.cell? ⟨w.heap.size + 1 + 1, 1, none⟩ = some (.int .i64 0)
  r2 : W.cell? ⟨w.heap.size + 1 + 1, 2, none⟩ = some (.slice none 0 0)
  f0 : W.frozen? ⟨w.heap.size + 1 + 1, 0, none⟩ = false
  f1 : W.frozen? ⟨w.heap.size + 1 + 1, 1, none⟩ = false
  f2 : W.frozen? ⟨w.heap.size + 1 + 1, 2, none⟩ = false
theorem P3.up {w W W' : World} {s t tm kd : Int} {d : ByteArray} {v : Value} (h : P3 w W s t tm kd d v) (hb : Below W.heap.size W W') : P3 w W' s t tm kd d v :=
  ⟨Below.on h.bel hb, Nat.le_trans h.size hb.size, cell_up hb h.a0, cell_up hb h.a1, cell_up hb h.a2, cell_up hb h.e0, cell_up hb h.e1, cell_up hb h.e2, cell_up hb h.r0, cell_up hb h.r1, cell_up hb h.r2, frozen_up hb h.r0 h.f0, frozen_up hb h.r1 h.f1, frozen_up hb h.r2 h.f2⟩
theorem P3.below {w W W' : World} {s t tm kd : Int} {d : ByteArray} {v : Value} {B : Nat} (h : P3 w W s t tm kd d v) (hb : Below B W W') (hB : w.heap.size + 3 ≤ B) : P3 w W' s t tm kd d v :=
  ⟨h.bel.trans (hb.mono (by omega)), Nat.le_trans h.size hb.size, (hb.cell (by simp; omega)).trans h.a0, (hb.cell (by simp; omega)).trans h.a1, (hb.cell (by simp; omega)).trans h.a2, (hb.cell (by simp; omega)).trans h.e0, (hb.cell (by simp; omega)).trans h.e1, (hb.cell (by simp; omega)).trans h.e2, (hb.cell (by simp; omega)).trans h.r0, (hb.cell (by simp; omega)).trans h.r1, (hb.cell (by simp; omega)).trans h.r2, (hb.frozen (by simp; omega)).trans h.f0, (hb.frozen (by simp; omega)).trans h.f1, (hb.frozen (by simp; omega)).trans h.f2⟩
theorem p3_new (w : World) (s t tm kd : Int) (d : ByteArray) (v : Value) : P3 w (((w.alloc (Obj.cells #[.int .i64 s, .int .i64 t, v] 41)).alloc (Obj.cells #[.int .i64 tm, .int .i64 kd, .string d] 25)).alloc (Obj.cells #[.int .i64 0, .int .i64 0, .slice none 0 0] 41)) s t tm kd d v := by
  refine ⟨ba (ba (ba (Below.refl _ _) _) _) _, by simp, ?_, ?_, ?_, ?_, ?_, ?_, ?_, ?_, ?_, ?_, ?_, ?_⟩ <;> simp [go_sem]
theorem frozen_other {w w' : World} {r : Option Nat} {p : Addr} {b : Bool} {u : Value} (hc : w.cell? p = some u) (h : w.frozen? p = b) (hg : w.grownBy w' r) (hne : some p.block ≠ r) : w'.frozen? p = b :=
  (World.frozen?_of_block (hg.block p.block (World.block_lt_of_cell? w p hc) hne)).trans h
/-- An entry laid into a row of its own. -/
theorem reads_built (w : World) (f : En) : Reads (w.alloc (.cells #[.int .i64 f.term, .int .i64 f.kind, .string f.data] 25)) (.slice (some ⟨w.heap.size, 0, none⟩) 1 1) [f] := by
  refine ⟨_, 1, rfl, fun _ => ⟨w.heap.size, 0, rfl, by simp, fun i x hx j u hu => ?_⟩⟩
  cases i with
  | succ i => simp at hx
  | zero =>
    simp only [List.getElem?_cons_zero, Option.some.injEq] at hx
    subst hx
    have hu : [Value.int .i64 f.term, .int .i64 f.kind, .string f.data][j]? = some u := hu
    match j, hu with
    | 0, hu => simp at hu; subst hu; simp [go_sem]
    | 1, hu => simp at hu; subst hu; simp [go_sem]
    | 2, hu => simp at hu; subst hu; simp [go_sem]
    | j + 3, hu => simp at hu
end Go.Proofs.Ytehkebdncfljmaa

namespace Go.Proofs.Ytehkebdncfljmaa
open Go Go.RowKit

set_option maxRecDepth 10000 in
set_option maxHeartbeats 4000000 in
theorem logPut_try (s t i tm kd : Int) (d : ByteArray) (ao : Option Addr) (n c : Nat) (l : List En) (w : World) (hr : Reads w (.slice ao n c) l) (hc : n ≤ c) (hn : n ≤ 1048576) (hz : SizedE l) (hd : d.size ≤ 1048576) :
    Calls Try.prog 28 #[.agg #[.int .i64 s, .int .i64 t, .slice ao n c], .int .i64 i, .agg #[.int .i64 tm, .int .i64 kd, .string d]] w fun e w' => ∃ v, e = .returned (.tuple #[.agg #[.int .i64 (putS s t l i ⟨tm, kd, d⟩), .int .i64 (putT s t l i ⟨tm, kd, d⟩), v], .bool (putB s t l i ⟨tm, kd, d⟩)]) ∧ ownsR w' w.heap.size 25 v (putE s t l i ⟨tm, kd, d⟩) ∧ Below w.heap.size w w' := by
  have HR : Hid (Reads w (.slice ao n c) l) := hr
  have HN : Hid (n = l.length) := hr.len
  have HZ : Hid (SizedE l) := hz
  have HD : Hid (d.size ≤ 1048576) := hd
  clear hr hz hd
  obtain ⟨f, HF⟩ : ∃ f : En, Hid (f = ⟨tm, kd, d⟩) := ⟨_, rfl⟩
  rw [← HF.out]
  obtain ⟨q, HQ⟩ : ∃ q, Hid (okL s t l = q) := ⟨_, rfl⟩
  obtain ⟨b, HB⟩ : ∃ b, Hid (putB s t l i f = b) := ⟨_, rfl⟩
  rw [HB.out]
  go_enter Try.func28, Try.ntmps28
  go_wp2_with fail
  have L0 := p3_new w s t tm kd d (.slice ao n c)
  obtain ⟨W, hW⟩ : ∃ W, ((w.alloc (Obj.cells #[.int .i64 s, .int .i64 t, .slice ao n c] 41)).alloc (Obj.cells #[.int .i64 tm, .int .i64 kd, .string d] 25)).alloc (Obj.cells #[.int .i64 0, .int .i64 0, .slice none 0 0] 41) = W := ⟨_, rfl⟩
  rw [hW] at L0 ⊢
  clear hW
  obtain ⟨li, HLI⟩ : ∃ x, Hid (lastI s l = x) := ⟨_, rfl⟩
  refine (logLast_any (HR.out.below L0.bel) (by rw [← HN.out]; omega)).mono ?_
  rintro e w1 ⟨rfl, hb1⟩
  rw [HLI.out]
  have L1 := L0.up hb1
  clear hb1 L0
  have a0 := L1.a0
  have a1 := L1.a1
  have a2 := L1.a2
  go_wp2_with fail
  refine (logOk_any (HR.out.below L1.bel) (by rw [← HN.out]; omega) HZ.out).mono ?_
  rintro e w2 ⟨rfl, hb2⟩
  rw [HQ.out]
  have L2 := L1.up hb2
  clear hb2 L1 a0 a1 a2
  cases q with
  | false =>
    have HF2 : Hid (putB s t l i f = false) := by show putB s t l i f = false; unfold putB; rw [HQ.out]; rfl
    have hb0 : b = false := HB.out.symm.trans HF2.out
    subst hb0
    have r0 := L2.r0
    have r1 := L2.r1
    have r2 := L2.r2
    have f0 := L2.f0
    have f1 := L2.f1
    have f2 := L2.f2
    go_wp2
    refine bodyPost_ret (ret_log2 (a := .int .i64 0) (b := .int .i64 0) (c := .slice none 0 0) (x := .bool false) rfl rfl rfl (by simp [go_sem, r0]) (by simp [go_sem, r1]) (by simp [go_sem, r2])) rfl ⟨.slice none 0 0, by unfold putS putT; rw [HF2.out]; rfl, ?_, ?_⟩
    · unfold putE; rw [HF2.out]
      exact ownsR_nil _ _ _
    · refine Below.setCell (Below.setCell (Below.setCell L2.bel ?_ _) ?_ _) ?_ _ <;> simp <;> omega
  | true =>
    obtain ⟨h0, h1, h2, h3, h4, h5, -⟩ := okL_all HQ.out
    have hli : li = s + n := by rw [← HLI.out, lastI_in h0 h1 h4, HN.out]
    rw [← HN.out] at h4 h5
    subst hli
    by_cases hi0 : i ≤ s
    · have HF2 : Hid (putB s t l i f = false) := by
        show putB s t l i f = false; unfold putB inP; rw [decide_eq_false (p := s + 1 ≤ i) (by omega)]; simp
      have hb0 : b = false := HB.out.symm.trans HF2.out
      subst hb0
      have a0 := L2.a0
      have r0 := L2.r0
      have r1 := L2.r1
      have r2 := L2.r2
      have f0 := L2.f0
      have f1 := L2.f1
      have f2 := L2.f2
      go_wp2
      refine bodyPost_ret (ret_log2 (a := .int .i64 0) (b := .int .i64 0) (c := .slice none 0 0) (x := .bool false) rfl rfl rfl (by simp [go_sem, r0]) (by simp [go_sem, r1]) (by simp [go_sem, r2])) rfl ⟨.slice none 0 0, by unfold putS putT; rw [HF2.out]; rfl, ?_, ?_⟩
      · unfold putE; rw [HF2.out]
        exact ownsR_nil _ _ _
      · refine Below.setCell (Below.setCell (Below.setCell L2.bel ?_ _) ?_ _) ?_ _ <;> simp <;> omega
    by_cases hi1 : s + n + 1 < i
    · have HF2 : Hid (putB s t l i f = false) := by
        show putB s t l i f = false; unfold putB inP; rw [← HN.out, decide_eq_false (p := i ≤ s + n + 1) (by omega)]; simp
      have hb0 : b = false := HB.out.symm.trans HF2.out
      subst hb0
      have a0 := L2.a0
      have r0 := L2.r0
      have r1 := L2.r1
      have r2 := L2.r2
      have f0 := L2.f0
      have f1 := L2.f1
      have f2 := L2.f2
      go_wp2
      refine bodyPost_ret (ret_log2 (a := .int .i64 0) (b := .int .i64 0) (c := .slice none 0 0) (x := .bool false) rfl rfl rfl (by simp [go_sem, r0]) (by simp [go_sem, r1]) (by simp [go_sem, r2])) rfl ⟨.slice none 0 0, by unfold putS putT; rw [HF2.out]; rfl, ?_, ?_⟩
      · unfold putE; rw [HF2.out]
        exact ownsR_nil _ _ _
      · refine Below.setCell (Below.setCell (Below.setCell L2.bel ?_ _) ?_ _) ?_ _ <;> simp <;> omega
    obtain ⟨k, hk⟩ : ∃ k : Nat, i = s + k + 1 := ⟨(i - s - 1).toNat, by omega⟩
    have hkn : k ≤ n := by omega
    have HP : Hid (putsL s l i f = l.take k ++ [f]) := by show _ = _; unfold putsL; rw [show (i - s - 1).toNat = k by omega]
    obtain ⟨D, HDD⟩ : ∃ D, Hid (D = l.take k) := ⟨_, rfl⟩
    have hDl : D.length = k := by rw [HDD.out]; simp; have := HN.out; omega
    have HIN : Hid (inP s l.length i = true) := by show _ = true; unfold inP; rw [← HN.out]; simp; omega
    have HZD : Hid (SizedE D) := fun g hg => HZ.out g (List.mem_of_mem_take (by rw [← HDD.out]; exact hg))
    subst hk
    have e1 : s + (k : Int) + 1 - s = (k : Int) + 1 := by omega
    have a0 := L2.a0
    have a1 := L2.a1
    have a2 := L2.a2
    go_wp2
    obtain ⟨WP, hWP⟩ : ∃ WP, w2.alloc (Obj.cells #[.int .i64 s, .int .i64 t, .slice none 0 0] 41) = WP := ⟨_, rfl⟩
    have hWs : WP.heap.size = w2.heap.size + 1 := by rw [← hWP]; simp
    have hbW : Below w2.heap.size w2 WP := by rw [← hWP]; exact ba (Below.refl _ _) _
    have x0 : WP.cell? ⟨w2.heap.size, 0, none⟩ = some (.int .i64 s) := by rw [← hWP]; simp [go_sem]
    have x1 : WP.cell? ⟨w2.heap.size, 1, none⟩ = some (.int .i64 t) := by rw [← hWP]; simp [go_sem]
    have x2 : WP.cell? ⟨w2.heap.size, 2, none⟩ = some (.slice none 0 0) := by rw [← hWP]; simp [go_sem]
    have y2 : WP.frozen? ⟨w2.heap.size, 2, none⟩ = false := by rw [← hWP]; simp [go_sem]
    rw [hWP]
    clear hWP a0 a1 a2
    have hs3 := L2.size
    have L3 := L2.up hbW
    have A2 := Below.cellOf (B := w2.heap.size) (W := WP) (p := ⟨w.heap.size, 2, none⟩) (v := .slice ao n c) (by simp; omega) L3.a2
    have E0 := Below.cellOf (B := w2.heap.size) (W := WP) (p := ⟨w.heap.size + 1, 0, none⟩) (v := .int .i64 tm) (by simp; omega) L3.e0
    have E1 := Below.cellOf (B := w2.heap.size) (W := WP) (p := ⟨w.heap.size + 1, 1, none⟩) (v := .int .i64 kd) (by simp; omega) L3.e1
    have E2 := Below.cellOf (B := w2.heap.size) (W := WP) (p := ⟨w.heap.size + 1, 2, none⟩) (v := .string d) (by simp; omega) L3.e2
    have HRD : Hid (∀ x, Below w2.heap.size WP x → Reads x (.slice ao k k) D) := fun x hx => by
      rw [HDD.out]; exact (HR.out.below (L3.below hx (by omega)).bel).take k hkn k
    have hk9 : k ≤ 1048576 := by omega
    have hD1 : D.length + [f].length ≤ 1048577 := by simp; omega
    have i1 : (0 : Int) ≤ (k : Int) := by omega
    have i2 : (k : Int) ≤ (c : Int) := by omega
    have HEF : Hid (∀ x : World, Reads (x.alloc (.cells #[.int .i64 tm, .int .i64 kd, .string d] 25)) (.slice (some ⟨x.heap.size, 0, none⟩) 1 1) [f]) := fun x => by rw [HF.out]; exact reads_built x ⟨tm, kd, d⟩
    go_region_held3 (fun w' => Below w2.heap.size WP w') ((first | exact (Below.refl _ _).drew | exact hSa | exact hSb | exact Below.alloc hSb (by have := hSb.size; omega) _ | exact hS5 | exact Below.setCell hS5 (by simp) _)) ((first | (go_at_call 50; refine (moved_try ao k k D _ (HRD.out _ (by assumption)) hk9 HZD.out).mono ?_; rintro e wa ⟨va, rfl, hoa, hba⟩; obtain ⟨a1, n1, c1, rfl⟩ := hoa.slice3; have hSa := keep_on (B := w2.heap.size) (W := WP) hba (by assumption) (by omega); have q0 : wa.cell? ⟨w2.heap.size, 0, none⟩ = some (.int .i64 s) := cell_on (B := w2.heap.size) (W := WP) hba (by assumption) (by simp [hWs]) (by first | assumption | exact x0); have q1 : wa.cell? ⟨w2.heap.size, 1, none⟩ = some (.int .i64 t) := cell_on (B := w2.heap.size) (W := WP) hba (by assumption) (by simp [hWs]) (by first | assumption | exact x1); have q2 : wa.cell? ⟨w2.heap.size, 2, none⟩ = some (.slice none 0 0) := cell_on (B := w2.heap.size) (W := WP) hba (by assumption) (by simp [hWs]) (by first | assumption | exact x2); have z2 : wa.frozen? ⟨w2.heap.size, 2, none⟩ = false := frozen_on (B := w2.heap.size) (W := WP) hba (by assumption) (by simp [hWs]) (by first | assumption | exact y2)) | (go_at_call 59; refine (cloned_any _ _ _ _ HD.out).mono ?_; rintro e wb ⟨rfl, hbb⟩; have hSb := keep_on (B := w2.heap.size) (W := WP) hbb hSa (by omega); have hob := hoa.all hbb; have u0 : wb.cell? ⟨w2.heap.size, 0, none⟩ = some (.int .i64 s) := cell_on (B := w2.heap.size) (W := WP) hbb hSa (by simp [hWs]) q0; have u1 : wb.cell? ⟨w2.heap.size, 1, none⟩ = some (.int .i64 t) := cell_on (B := w2.heap.size) (W := WP) hbb hSa (by simp [hWs]) q1; have u2 : wb.cell? ⟨w2.heap.size, 2, none⟩ = some (.slice none 0 0) := cell_on (B := w2.heap.size) (W := WP) hbb hSa (by simp [hWs]) q2; have v2 : wb.frozen? ⟨w2.heap.size, 2, none⟩ = false := frozen_on (B := w2.heap.size) (W := WP) hbb hSa (by simp [hWs]) z2) | (refine step_append_recs rfl (.tmp 48) (.tmp 51) 39 rfl WP.heap.size 25 _ 32 underEn infoEn rfl _ (.slice (some ⟨wb.heap.size, 0, none⟩) 1 1) D [f] (by rfl) (by rfl) (hob.alloc _) (HEF.out wb) (en_one _) hD1 (by decide) (by have := hSb.size; simp; omega) ?_; intro v5 w5 ho5 hg5; obtain ⟨a5, n5, c5, rfl⟩ := ho5.slice3; have hS5 : Below w2.heap.size WP w5 := Below.grown (Below.alloc hSb (by have := hSb.size; omega) _) hg5 (by have := hSb.size; simp; omega) (fun k hk => by have := (hob.lt k hk).1; simp at this; omega); have t0 := cell_other (cell_up (ba (Below.refl _ _) _) u0) hg5 (cell_apart x0 hob); have t1 := cell_other (cell_up (ba (Below.refl _ _) _) u1) hg5 (cell_apart x1 hob); have t2 := cell_other (cell_up (ba (Below.refl _ _) _) u2) hg5 (cell_apart x2 hob); have o2 := frozen_other (cell_up (ba (Below.refl _ _) _) u2) (frozen_up (ba (Below.refl _ _) _) u2 v2) hg5 (cell_apart x2 hob))))
    have HS6 : Hid (Below w2.heap.size WP (w5.setCell ⟨w2.heap.size, 2, none⟩ (.slice a5 n5 c5))) := Below.setCell hS5 (by simp) _
    have HO6 : Hid (ownsR (w5.setCell ⟨w2.heap.size, 2, none⟩ (.slice a5 n5 c5)) WP.heap.size 25 (.slice a5 n5 c5) (D ++ [f])) := ho5.setBelow (by simp; omega) _
    have p0 : (w5.setCell ⟨w2.heap.size, 2, none⟩ (.slice a5 n5 c5)).cell? ⟨w2.heap.size, 0, none⟩ = some (.int .i64 s) := by simp [go_sem, t0]
    have p1 : (w5.setCell ⟨w2.heap.size, 2, none⟩ (.slice a5 n5 c5)).cell? ⟨w2.heap.size, 1, none⟩ = some (.int .i64 t) := by simp [go_sem, t1]
    have p2 : (w5.setCell ⟨w2.heap.size, 2, none⟩ (.slice a5 n5 c5)).cell? ⟨w2.heap.size, 2, none⟩ = some (.slice a5 n5 c5) := World.cell?_setCell_same' _ _ _ (by rw [t2]; rfl)
    obtain ⟨w6, h6⟩ : ∃ w6, w5.setCell ⟨w2.heap.size, 2, none⟩ (.slice a5 n5 c5) = w6 := ⟨_, rfl⟩
    rw [h6] at HS6 HO6 p0 p1 p2 ⊢
    have L6 : P3 w w6 s t tm kd d (.slice ao n c) := L3.below HS6.out (by omega)
    have HBt : Hid (okL s t (D ++ [f]) = b) := by
      show _ = b
      rw [← HB.out]; unfold putB; rw [HQ.out, HIN.out, HP.out, HDD.out]; rfl
    have hlen6 : (D ++ [f]).length ≤ 1048577 := by simp; omega
    have HZ6 : Hid (SizedE (D ++ [f])) := fun g hg => by
      rcases List.mem_append.1 hg with h | h
      · exact HZD.out g h
      · rw [List.mem_singleton.1 h, HF.out]; exact HD.out
    have HSZ : Hid (w2.heap.size + 1 ≤ w6.heap.size) := by show _ ≤ _; have := HS6.out.size; omega
    clear h6 t0 t1 t2 o2 ho5 hg5 hS5 hob hSb hSa hoa hbb hba A2 E2 HRD q0 q1 q2 z2 v2 HEF
    go_wp2_with fail
    refine (logOk_any (ownsR.reads HO6.out) hlen6 HZ6.out).mono ?_
    rintro e w7 ⟨rfl, hb7⟩
    rw [HBt.out]
    have L7 := L6.up hb7
    have u0 := cell_up hb7 p0
    have u1 := cell_up hb7 p1
    have u2 := cell_up hb7 p2
    have HO7 : Hid (ownsR w7 WP.heap.size 25 (.slice a5 n5 c5) (D ++ [f])) := HO6.out.all hb7
    clear hb7 L6 p0 p1 p2
    cases b with
    | false =>
      have r0 := L7.r0
      have r1 := L7.r1
      have r2 := L7.r2
      have f0 := L7.f0
      have f1 := L7.f1
      have f2 := L7.f2
      go_wp2
      refine bodyPost_ret (ret_log2 (a := .int .i64 0) (b := .int .i64 0) (c := .slice none 0 0) (x := .bool false) rfl rfl rfl (by simp [go_sem, r0]) (by simp [go_sem, r1]) (by simp [go_sem, r2])) rfl ⟨.slice none 0 0, by unfold putS putT; rw [HB.out]; rfl, ?_, ?_⟩
      · unfold putE; rw [HB.out]
        exact ownsR_nil _ _ _
      · refine Below.setCell (Below.setCell (Below.setCell L7.bel ?_ _) ?_ _) ?_ _ <;> simp <;> omega
    | true =>
      have hs7 := L7.size
      have r0 := L7.r0
      have r1 := L7.r1
      have r2 := L7.r2
      have f0 := L7.f0
      have f1 := L7.f1
      have f2 := L7.f2
      go_wp2
      refine bodyPost_ret (ret_log2 (a := .int .i64 s) (b := .int .i64 t) (c := .slice a5 n5 c5) (x := .bool true) rfl rfl rfl (by simp [go_sem, r0]) (by simp [go_sem, r1]) (by simp [go_sem, r2])) rfl ⟨.slice a5 n5 c5, by unfold putS putT; rw [HB.out]; rfl, ?_, ?_⟩
      · unfold putE; rw [HB.out, if_pos rfl, HP.out, ← HDD.out]
        refine ownsR.mono (ownsR.setBelow (ownsR.setBelow (ownsR.setBelow HO7.out ?_ _) ?_ _) ?_ _) ?_ <;> (try simp) <;> omega
      · refine Below.setCell (Below.setCell (Below.setCell L7.bel ?_ _) ?_ _) ?_ _ <;> simp <;> omega
end Go.Proofs.Ytehkebdncfljmaa

namespace Go.Proofs.Ytehkebdncfljmaa
open Go Go.RowKit
theorem heap_alloc_at (w : World) (o : Obj) (i : Nat) : (w.alloc o).heap[i]? = if i = w.heap.size then some o else w.heap[i]? := by
  show (w.heap.push o)[i]? = _
  rw [Array.getElem?_push]
theorem undrew {B : Nat} {a w : World} (h : Below B a w.drew) : Below B a w := ⟨h.os, h.tape, h.output, h.size, h.block⟩
theorem grown_undrew {w w' : World} {r : Option Nat} (h : w.drew.grownBy w' r) : w.grownBy w' r := ⟨h.os, h.tape, h.output, h.size, h.block⟩
theorem heap_up1 {w : World} {o x : Obj} {i : Nat} (h : w.heap[i]? = some o) : (w.alloc x).heap[i]? = some o := by
  rw [heap_alloc_at, if_neg (Nat.ne_of_lt (Array.getElem?_eq_some_iff.1 h).1), h]
theorem heap_at1 (w : World) (o : Obj) : (w.alloc o).heap[w.heap.size]? = some o := by rw [heap_alloc_at, if_pos rfl]
theorem heap_at2 (w : World) (o x : Obj) : ((w.alloc o).alloc x).heap[w.heap.size]? = some o := heap_up1 (heap_at1 w o)
theorem heap_at3 (w : World) (o x y : Obj) : (((w.alloc o).alloc x).alloc y).heap[w.heap.size]? = some o := heap_up1 (heap_at2 w o x)
theorem heap_bt2 (w : World) (o x : Obj) : ((w.alloc x).alloc o).heap[w.heap.size + 1]? = some o := by have := heap_at1 (w.alloc x) o; rwa [World.size_alloc] at this
theorem heap_bt3 (w : World) (o x y : Obj) : (((w.alloc x).alloc o).alloc y).heap[w.heap.size + 1]? = some o := heap_up1 (heap_bt2 w o x)
theorem heap_ct3 (w : World) (o x y : Obj) : (((w.alloc x).alloc y).alloc o).heap[w.heap.size + 1 + 1]? = some o := by have := heap_at1 ((w.alloc x).alloc y) o; rwa [World.size_alloc, World.size_alloc] at this
/-- The box of a log is no row of entries. -/
theorem not_row29 {w : World} {B X : Nat} {v : Value} {l : List En} {cs : Array Value} (h : w.heap[X]? = some (.cells cs 41)) (ho : ownsR w B 25 v l) : some X ≠ v.ownBlock := by
  rcases ho.2 with ⟨rfl, _⟩ | ⟨g, cap, cur, rfl, _, hgb, _⟩
  · simp [Value.ownBlock]
  · intro e
    obtain rfl : X = g := by simpa [Value.ownBlock] using e
    have := h.symm.trans hgb
    simp at this
theorem heap_grown {w w' : World} {X : Nat} {r : Option Nat} {o : Obj} (hg : w.grownBy w' r) (h : w.heap[X]? = some o) (hne : some X ≠ r) : w'.heap[X]? = some o :=
  (hg.block X (Array.getElem?_eq_some_iff.1 h).1 (fun e => hne e)).trans h
theorem heap_keep {w w' : World} {B X : Nat} {v : Value} {l : List En} {cs : Array Value} (h : w.heap[X]? = some (.cells cs 41)) (ho : ownsR w B 25 v l) (hg : w.grownBy w' v.ownBlock) : w'.heap[X]? = some (.cells cs 41) :=
  heap_grown hg h (not_row29 h ho)
theorem Reads.grown {α : Type} [Rec α] {w w' : World} {r : Option Nat} {b o n c : Nat} {l : List α} (h : Reads w (.slice (some ⟨b, o, none⟩) n c) l) (hg : w.grownBy w' r) (hne : some b ≠ r) : Reads w' (.slice (some ⟨b, o, none⟩) n c) l := by
  obtain ⟨ao, cap, e, h⟩ := h
  refine ⟨ao, cap, e, fun hl => ?_⟩
  obtain ⟨b', o', rfl, hlt, hc⟩ := h hl
  simp only [Value.slice.injEq, Option.some.injEq, Addr.mk.injEq, and_true] at e
  obtain ⟨⟨rfl, rfl⟩, _⟩ := e
  exact ⟨b, o, rfl, Nat.lt_of_lt_of_le hlt hg.size, fun i x hx j u hu => cell_other (hc i x hx j u hu) hg hne⟩
theorem box_done {w : World} {B X : Nat} {v x y z : Value} {l : List En} {s t : Int} (h : w.heap[X]? = some (.cells #[x, y, z] 41)) (ho : ownsR w B 25 v l) :
    (((w.setCell ⟨X, 0, none⟩ (.int .i64 s)).setCell ⟨X, 1, none⟩ (.int .i64 t)).setCell ⟨X, 2, none⟩ v).heap[X]? = some (.cells #[.int .i64 s, .int .i64 t, v] 41) ∧ ownsR (((w.setCell ⟨X, 0, none⟩ (.int .i64 s)).setCell ⟨X, 1, none⟩ (.int .i64 t)).setCell ⟨X, 2, none⟩ v) B 25 v l := by
  have h1 := cur_set0 h (.int .i64 s)
  have h2 := cur_set1 h1 (.int .i64 t)
  have h3 := cur_set2 h2 v
  refine ⟨h3, ?_⟩
  have hne := not_row29 h ho
  have k : ∀ {W : World} {j : Nat} {u : Value}, ownsR W B 25 v l → ownsR (W.setCell ⟨X, j, none⟩ u) B 25 v l := fun hW => World.ownsRow.kept hW (grown_set _ _ _ _) (.inr (fun e => hne e.symm))
  exact k (k (k ho))
theorem ownsR_made0' {w : World} {B g : Nat} (hg : w.heap.size = g) (hB : B ≤ g) : ownsR (w.alloc (.cells #[] 25)) B 25 (.slice (some ⟨g, 0, none⟩) 0 0) ([] : List En) := by
  subst hg; exact ownsR_made0 w B 25 hB
set_option maxRecDepth 10000 in
theorem slice_to (wx : World) (ao : Option Addr) (n c k : Nat) (h : k ≤ c) : (Instr.slice 39 (.slice ao n c) none (some (.int .i64 (k : Int))) none).run Try.prog wx = .ok (.slice ao k c) wx := by
  have hsz : (sizeOf (Try.prog.elem 39)).run Try.prog wx = .ok 3 wx := by kernel_rfl
  rw [run_slice_h wx 39 ao n c (by kernel_rfl) .i64 (k : Int) (by omega) (by omega), hsz]
  simp only [Result.andThen, sliced, Nat.zero_mul, Nat.sub_zero, Int.toNat_natCast]
  congr 2
  split
  · rfl
  · cases ao <;> simp [Addr.add]
/-- How the region has laid what it makes. -/
structure LayP where
  g0 : Nat
  gE : Nat
  X : Nat
  a1 : Option Addr
  n1 : Nat
  c1 : Nat
  a2 : Option Addr
  n2 : Nat
  c2 : Nat
end Go.Proofs.Ytehkebdncfljmaa

namespace Go.Proofs.Ytehkebdncfljmaa
open Go Go.RowKit

set_option maxRecDepth 10000 in
set_option maxHeartbeats 4000000 in
theorem specLogPut_try (s t i tm kd : Int) (d : ByteArray) (ao : Option Addr) (n c : Nat) (l : List En) (w : World) (hr : Reads w (.slice ao n c) l) (hc : n ≤ c) (hn : n ≤ 1048576) (hz : SizedE l) (hd : d.size ≤ 1048576) :
    Calls Try.prog 29 #[.agg #[.int .i64 s, .int .i64 t, .slice ao n c], .int .i64 i, .agg #[.int .i64 tm, .int .i64 kd, .string d]] w fun e w' => ∃ v, e = .returned (.tuple #[.agg #[.int .i64 (putS s t l i ⟨tm, kd, d⟩), .int .i64 (putT s t l i ⟨tm, kd, d⟩), v], .bool (putB s t l i ⟨tm, kd, d⟩)]) ∧ ownsR w' w.heap.size 25 v (putE s t l i ⟨tm, kd, d⟩) ∧ Below w.heap.size w w' := by
  have HR : Hid (Reads w (.slice ao n c) l) := hr
  have HN : Hid (n = l.length) := hr.len
  have HZ : Hid (SizedE l) := hz
  have HD : Hid (d.size ≤ 1048576) := hd
  clear hr hz hd
  obtain ⟨f, HF⟩ : ∃ f : En, Hid (f = ⟨tm, kd, d⟩) := ⟨_, rfl⟩
  rw [← HF.out]
  obtain ⟨q, HQ⟩ : ∃ q, Hid (okL s t l = q) := ⟨_, rfl⟩
  obtain ⟨b, HB⟩ : ∃ b, Hid (putB s t l i f = b) := ⟨_, rfl⟩
  rw [HB.out]
  go_enter Try.func29, Try.ntmps29
  go_wp2_with fail
  have L0 := p3_new w s t tm kd d (.slice ao n c)
  obtain ⟨W, hW⟩ : ∃ W, ((w.alloc (Obj.cells #[.int .i64 s, .int .i64 t, .slice ao n c] 41)).alloc (Obj.cells #[.int .i64 tm, .int .i64 kd, .string d] 25)).alloc (Obj.cells #[.int .i64 0, .int .i64 0, .slice none 0 0] 41) = W := ⟨_, rfl⟩
  rw [hW] at L0 ⊢
  clear hW
  have H1 : Hid (∀ x : Wd W, Calls Try.prog 30 #[.agg #[.int .i64 s, .int .i64 t, .slice ao n c]] x.at' fun e w' => e = .returned (.bool q) ∧ Below x.at'.heap.size x.at' w') := fun x => by
    rw [← HQ.out]; exact specLogOk_any (HR.out.below (Below.on L0.bel x.ok)) (by rw [← HN.out]; omega) HZ.out
  cases q with
  | false =>
    have HF2 : Hid (putB s t l i f = false) := by show putB s t l i f = false; unfold putB; rw [HQ.out]; rfl
    have hb0 : b = false := HB.out.symm.trans HF2.out
    subst hb0
    have a0 := L0.a0
    have a1 := L0.a1
    have a2 := L0.a2
    have q0 := Wd.cell a0
    have q1 := Wd.cell a1
    have q2 := Wd.cell a2
    go_wp2
    refine wp_region_wd (by kernel_rfl) (by kernel_rfl) ?_
    repeat (go_big_quiet_step ((first | (go_at_call 30; refine calls_wd (v := .bool false) ?_; exact H1.out _))))
    refine wpQuiet_nil ?_
    rintro _ ⟨y, rfl⟩
    have L1 := L0.up y.ok
    clear q0 q1 q2 a0 a1 a2 L0
    have r0 := L1.r0
    have r1 := L1.r1
    have r2 := L1.r2
    have f0 := L1.f0
    have f1 := L1.f1
    have f2 := L1.f2
    go_wp2
    refine bodyPost_ret (ret_log2 (a := .int .i64 0) (b := .int .i64 0) (c := .slice none 0 0) (x := .bool false) rfl rfl rfl (by simp [go_sem, r0]) (by simp [go_sem, r1]) (by simp [go_sem, r2])) rfl ⟨.slice none 0 0, by unfold putS putT; rw [HF2.out]; rfl, ?_, ?_⟩
    · unfold putE; rw [HF2.out]
      exact ownsR_nil _ _ _
    · refine Below.setCell (Below.setCell (Below.setCell L1.bel ?_ _) ?_ _) ?_ _ <;> simp <;> omega
  | true =>
    obtain ⟨h0, h1, h2, h3, h4, h5, -⟩ := okL_all HQ.out
    rw [← HN.out] at h4 h5
    have h6 : s + 1 ≤ 1000001 := by omega
    have h7 : s + (n : Int) + 1 ≤ 1000001 := by omega
    cases hh : inP s n i with
    | false =>
      have HF2 : Hid (putB s t l i f = false) := by show putB s t l i f = false; unfold putB; rw [← HN.out, hh]; simp
      have hb0 : b = false := HB.out.symm.trans HF2.out
      subst hb0
      have H2 : Hid (∀ w : World, Calls Try.prog 38 #[.int .i64 i, .int .i64 (s + 1), .int .i64 (s + n + 1)] w fun e w' => e = .returned (.bool false) ∧ w' = w) := fun w => by
        rw [← hh]; exact in_any _ _ _ _
      clear hh
      have a0 := L0.a0
      have a1 := L0.a1
      have a2 := L0.a2
      have q0 := Wd.cell a0
      have q1 := Wd.cell a1
      have q2 := Wd.cell a2
      go_wp2
      refine wp_region_wd (by kernel_rfl) (by kernel_rfl) ?_
      repeat (go_big_quiet_step ((first | (go_at_call 30; refine calls_wd (v := .bool true) ?_; exact H1.out _) | (go_at_call 53; refine calls_wd (v := .int .i64 (s + n)) ?_; exact l06Last_any _ _ _ _ _ _ h0 h1 h4) | (go_at_call 38; refine calls_wd_same (v := .bool false) ?_; exact H2.out _))))
      refine wpQuiet_nil ?_
      rintro _ ⟨y, rfl⟩
      have L1 := L0.up y.ok
      clear q0 q1 q2 a0 a1 a2 L0
      have r0 := L1.r0
      have r1 := L1.r1
      have r2 := L1.r2
      have f0 := L1.f0
      have f1 := L1.f1
      have f2 := L1.f2
      go_wp2
      refine bodyPost_ret (ret_log2 (a := .int .i64 0) (b := .int .i64 0) (c := .slice none 0 0) (x := .bool false) rfl rfl rfl (by simp [go_sem, r0]) (by simp [go_sem, r1]) (by simp [go_sem, r2])) rfl ⟨.slice none 0 0, by unfold putS putT; rw [HF2.out]; rfl, ?_, ?_⟩
      · unfold putE; rw [HF2.out]
        exact ownsR_nil _ _ _
      · refine Below.setCell (Below.setCell (Below.setCell L1.bel ?_ _) ?_ _) ?_ _ <;> simp <;> omega
    | true =>
      have HIN : Hid (inP s l.length i = true) := by rw [← HN.out]; exact hh
      have H2 : Hid (∀ w : World, Calls Try.prog 38 #[.int .i64 i, .int .i64 (s + 1), .int .i64 (s + n + 1)] w fun e w' => e = .returned (.bool true) ∧ w' = w) := fun w => by
        rw [← hh]; exact in_any _ _ _ _
      have hh2 : s + 1 ≤ i ∧ i ≤ s + n + 1 := by simpa [inP] using hh
      clear hh
      obtain ⟨k, hk⟩ : ∃ k : Nat, i = s + k + 1 := ⟨(i - s - 1).toNat, by omega⟩
      have hkn : k ≤ n := by omega
      have HP : Hid (putsL s l i f = l.take k ++ [f]) := by show _ = _; unfold putsL; rw [show (i - s - 1).toNat = k by omega]
      obtain ⟨D, HDD⟩ : ∃ D, Hid (D = l.take k) := ⟨_, rfl⟩
      have hDl : D.length = k := by rw [HDD.out]; simp; have := HN.out; omega
      have HZD : Hid (SizedE D) := fun g hg => HZ.out g (List.mem_of_mem_take (by rw [← HDD.out]; exact hg))
      clear hh2
      subst hk
      have e1 : s + (k : Int) + 1 - s = (k : Int) + 1 := by omega
      have a0 := L0.a0
      have a1 := L0.a1
      have a2 := L0.a2
      have q0 := Wd.cell a0
      have q1 := Wd.cell a1
      have q2 := Wd.cell a2
      go_wp2
      refine wp_region_wd (by kernel_rfl) (by kernel_rfl) ?_
      repeat (go_big_quiet_step ((first | (go_at_call 30; refine calls_wd (v := .bool true) ?_; exact H1.out _) | (go_at_call 53; refine calls_wd (v := .int .i64 (s + n)) ?_; exact l06Last_any _ _ _ _ _ _ h0 h1 h4) | (go_at_call 38; refine calls_wd_same (v := .bool true) ?_; exact H2.out _))))
      refine wpQuiet_nil ?_
      rintro _ ⟨y, rfl⟩
      have L1 := L0.up y.ok
      clear q0 q1 q2 a0 a1 a2 L0
      obtain ⟨w2, hw2⟩ : ∃ w2, y.at' = w2 := ⟨_, rfl⟩
      rw [hw2] at L1 ⊢
      clear hw2 y H1 H2
      have hs3 := L1.size
      have A0 := Below.cellOf (B := w2.heap.size) (W := w2) (p := ⟨w.heap.size, 0, none⟩) (v := .int .i64 s) (by simp; omega) L1.a0
      have A1 := Below.cellOf (B := w2.heap.size) (W := w2) (p := ⟨w.heap.size, 1, none⟩) (v := .int .i64 t) (by simp; omega) L1.a1
      have A2 := Below.cellOf (B := w2.heap.size) (W := w2) (p := ⟨w.heap.size, 2, none⟩) (v := .slice ao n c) (by simp; omega) L1.a2
      have E0 := Below.cellOf (B := w2.heap.size) (W := w2) (p := ⟨w.heap.size + 1, 0, none⟩) (v := .int .i64 tm) (by simp; omega) L1.e0
      have E1 := Below.cellOf (B := w2.heap.size) (W := w2) (p := ⟨w.heap.size + 1, 1, none⟩) (v := .int .i64 kd) (by simp; omega) L1.e1
      have E2 := Below.cellOf (B := w2.heap.size) (W := w2) (p := ⟨w.heap.size + 1, 2, none⟩) (v := .string d) (by simp; omega) L1.e2
      have HRD : Hid (∀ x, Below w2.heap.size w2 x → Reads x (.slice ao k c) D) := fun x hx => by
        rw [HDD.out]; exact (HR.out.below (L1.below hx (by omega)).bel).take k hkn c
      have hk9 : k ≤ 1048576 := by omega
      have hD1 : D.length + [f].length ≤ 1048577 := by simp; omega
      have i1 : (0 : Int) ≤ (k : Int) := by omega
      have i2 : (k : Int) ≤ (c : Int) := by omega
      have HEF : Hid (∀ (x : World) (g : Nat), x.heap.size = g → Reads (x.alloc (.cells #[.int .i64 tm, .int .i64 kd, .string d] 25)) (.slice (some ⟨g, 0, none⟩) 1 1) [f]) := fun x g hx => by rw [HF.out, ← hx]; exact reads_built x ⟨tm, kd, d⟩
      have hsl : ∀ wx, (Instr.slice 39 (.slice ao n c) none (some (.int .i64 (k : Int))) none).run Try.prog wx = .ok (.slice ao k c) wx := fun wx => slice_to wx ao n c k (by omega)
      have hw1 : IntKind.i64.wrap ((k : Int) + 1) = (k : Int) + 1 := by rw [IntKind.wrap_i64]; omega
      have hw2 : IntKind.i64.wrap (k : Int) = (k : Int) := by rw [IntKind.wrap_i64]; omega
      have HL0 : Hid (([] : List En).length + D.length ≤ 1048577) := by show _ ≤ _; simp; omega
      go_wp2
      refine wp_puts (α := LayP) (fun x => [(24, .pointer (some ⟨w.heap.size, 0, none⟩)), (25, .int .i64 s), (26, .pointer (some ⟨w.heap.size, 1, none⟩)), (27, .int .i64 t), (28, .slice (some ⟨x.g0, 0, none⟩) 0 0), (29, .pointer (some ⟨w.heap.size, 2, none⟩)), (30, .slice ao n c), (31, .int .i64 (s + k + 1)), (32, .pointer (some ⟨w.heap.size, 0, none⟩)), (33, .int .i64 s), (34, .int .i64 (k + 1)), (35, .int .i64 k), (36, .slice ao k c), (37, .slice x.a1 x.n1 x.c1), (38, .agg #[.int .i64 tm, .int .i64 kd, .string d]), (39, .slice (some ⟨x.gE, 0, none⟩) 1 1), (40, .slice x.a2 x.n2 x.c2), (41, .agg #[.int .i64 s, .int .i64 t, .slice x.a2 x.n2 x.c2]), (8, .pointer (some ⟨x.X, 0, none⟩))]) (fun x w' => w'.heap[x.X]? = some (.cells #[.int .i64 s, .int .i64 t, .slice x.a2 x.n2 x.c2] 41) ∧ ownsR w' w2.heap.size 25 (.slice x.a2 x.n2 x.c2) (D ++ [f]) ∧ Below w2.heap.size w2 w') ?_ ?_
      · go_region_held3 (fun w' => Below w2.heap.size w2 w') ((first | exact (Below.refl _ _).drew | exact hS5 | exact hS6 | exact Below.alloc (by assumption) (Below.size (by assumption)) _ | (refine Below.setCell (Below.setCell (Below.setCell hS6 ?_ _) ?_ _) ?_ _ <;> (have h5s := hS5.size; first | omega | (simp; omega) | simp)))) ((first | (refine step_append_recs rfl (.tmp 28) (.tmp 36) 39 rfl w2.heap.size 25 _ 32 underEn infoEn rfl _ (.slice ao k c) [] D (by rfl) (by rfl) (by first | exact ownsR_made0' rfl (Nat.le_refl _) | exact (ownsR_made0' (by simp) (by first | omega | (simp; omega) | simp)).alloc _ | exact ((ownsR_made0' (by simp) (by first | omega | (simp; omega) | simp)).alloc _).alloc _ | exact ownsR_made0' (by simp) (by first | omega | (simp; omega) | simp)) (HRD.out _ (by assumption)) (en_one _) HL0.out (by decide) (by first | omega | exact Nat.le_refl _ | (simp <;> omega)) ?_; intro v5 w5 ho5 hg5; replace hg5 : World.grownBy _ w5 (some _) := grown_undrew hg5; (try dsimp only at hg5); obtain ⟨a5, n5, c5, rfl⟩ := ho5.slice3; have hS5 : Below w2.heap.size w2 w5 := Below.grown (undrew (by assumption)) hg5 (by first | omega | exact Nat.le_refl _ | (simp <;> omega)) (fun k hk => by cases hk; first | omega | exact Nat.le_refl _ | (simp <;> omega)); have hz5 := hg5.size; (try simp  at hz5); (try (refine (fun (hA5 : w5.heap[w2.heap.size]? = some (Obj.cells #[.int .i64 0, .int .i64 0, .slice none 0 0] 41)) => ?_) ?_; rotate_left; (focus (refine heap_grown hg5 ?_ ?_; (focus (first | exact heap_at1 _ _ | exact heap_at2 _ _ _ | exact heap_at3 _ _ _ _ | exact heap_bt2 _ _ _ | exact heap_bt3 _ _ _ _ | exact heap_ct3 _ _ _ _)); (focus (show some _ ≠ some _; first | (simp <;> fail) | (intro e; have e2 := Option.some.inj e; (try dsimp only at e2); omega))))))); (try (refine (fun (hA5 : w5.heap[w2.heap.size + 1]? = some (Obj.cells #[.int .i64 0, .int .i64 0, .slice none 0 0] 41)) => ?_) ?_; rotate_left; (focus (refine heap_grown hg5 ?_ ?_; (focus (first | exact heap_at1 _ _ | exact heap_at2 _ _ _ | exact heap_at3 _ _ _ _ | exact heap_bt2 _ _ _ | exact heap_bt3 _ _ _ _ | exact heap_ct3 _ _ _ _)); (focus (show some _ ≠ some _; first | (simp <;> fail) | (intro e; have e2 := Option.some.inj e; omega))))))); (try (refine (fun (hA5 : w5.heap[w2.heap.size + 1 + 1]? = some (Obj.cells #[.int .i64 0, .int .i64 0, .slice none 0 0] 41)) => ?_) ?_; rotate_left; (focus (refine heap_grown hg5 ?_ ?_; (focus (first | exact heap_at1 _ _ | exact heap_at2 _ _ _ | exact heap_at3 _ _ _ _ | exact heap_bt2 _ _ _ | exact heap_bt3 _ _ _ _ | exact heap_ct3 _ _ _ _)); (focus (show some _ ≠ some _; first | (simp <;> fail) | (intro e; have e2 := Option.some.inj e; omega))))))); skip) | (refine step_append_recs rfl (.tmp 37) (.tmp 39) 39 rfl w2.heap.size 25 _ 32 underEn infoEn rfl (.slice a5 n5 c5) _ D [f] (by rfl) (by rfl) (by first | exact ho5 | exact ho5.alloc _ | exact (ho5.alloc _).alloc _) (by first | exact HEF.out _ _ rfl | exact HEF.out _ _ (by simp) | exact (HEF.out _ _ (by simp)).alloc _ | exact Reads.grown (HEF.out _ _ (by simp)) hg5 (by show some _ ≠ some _; simp <;> omega) | exact Reads.grown ((HEF.out _ _ (by simp)).alloc _) hg5 (by show some _ ≠ some _; simp <;> omega) | exact Reads.grown (((HEF.out _ _ (by simp)).alloc _).alloc _) hg5 (by show some _ ≠ some _; simp <;> omega) | exact (Reads.grown (HEF.out _ _ (by simp)) hg5 (by show some _ ≠ some _; simp <;> omega)).alloc _ | exact (Reads.grown ((HEF.out _ _ (by simp)).alloc _) hg5 (by show some _ ≠ some _; simp <;> omega)).alloc _) (en_one _) hD1 (by decide) (by have := hS5.size; first | omega | (simp; omega)) ?_; intro v6 w6 ho6 hg6; obtain ⟨a6, n6, c6, rfl⟩ := ho6.slice3; have hS6 : Below w2.heap.size w2 w6 := Below.grown (by assumption) hg6 (by have := hS5.size; first | omega | (simp; omega)) (fun k hk => (ho5.lt k hk).1); (try (refine (fun (hA6 : w6.heap[w5.heap.size]? = some (Obj.cells #[.int .i64 0, .int .i64 0, .slice none 0 0] 41)) => ?_) ?_; rotate_left; (focus (refine heap_keep (B := w2.heap.size) (l := D) ?_ ?_ hg6; (focus (first | exact heap_at1 _ _ | exact heap_at2 _ _ _ | exact heap_at3 _ _ _ _ | exact heap_bt2 _ _ _ | exact heap_bt3 _ _ _ _ | exact heap_ct3 _ _ _ _)); (focus (first | exact ho5 | exact ho5.alloc _ | exact (ho5.alloc _).alloc _)))); obtain ⟨c0, c1, c2, cf⟩ := cur_cells hA6; have f0 := cf 0; have f1 := cf 1; have f2 := cf 2; clear cf)); (try (refine (fun (hA6 : w6.heap[w5.heap.size + 1]? = some (Obj.cells #[.int .i64 0, .int .i64 0, .slice none 0 0] 41)) => ?_) ?_; rotate_left; (focus (refine heap_keep (B := w2.heap.size) (l := D) ?_ ?_ hg6; (focus (first | exact heap_at1 _ _ | exact heap_at2 _ _ _ | exact heap_at3 _ _ _ _ | exact heap_bt2 _ _ _ | exact heap_bt3 _ _ _ _ | exact heap_ct3 _ _ _ _)); (focus (first | exact ho5 | exact ho5.alloc _ | exact (ho5.alloc _).alloc _)))); obtain ⟨c0, c1, c2, cf⟩ := cur_cells hA6; have f0 := cf 0; have f1 := cf 1; have f2 := cf 2; clear cf)); (try (refine (fun (hA6 : w6.heap[w2.heap.size]? = some (Obj.cells #[.int .i64 0, .int .i64 0, .slice none 0 0] 41)) => ?_) ?_; rotate_left; (focus (refine heap_keep (B := w2.heap.size) (l := D) ?_ ?_ hg6; (focus (first | exact hA5 | exact heap_up1 hA5 | exact heap_up1 (heap_up1 hA5) | exact heap_at1 _ _ | exact heap_at2 _ _ _ | exact heap_at3 _ _ _ _ | exact heap_bt2 _ _ _ | exact heap_bt3 _ _ _ _ | exact heap_ct3 _ _ _ _)); (focus (first | exact ho5 | exact ho5.alloc _ | exact (ho5.alloc _).alloc _)))); obtain ⟨c0, c1, c2, cf⟩ := cur_cells hA6; have f0 := cf 0; have f1 := cf 1; have f2 := cf 2; clear cf)); (try (refine (fun (hA6 : w6.heap[w2.heap.size + 1]? = some (Obj.cells #[.int .i64 0, .int .i64 0, .slice none 0 0] 41)) => ?_) ?_; rotate_left; (focus (refine heap_keep (B := w2.heap.size) (l := D) ?_ ?_ hg6; (focus (first | exact hA5 | exact heap_up1 hA5 | exact heap_up1 (heap_up1 hA5) | exact heap_at1 _ _ | exact heap_at2 _ _ _ | exact heap_at3 _ _ _ _ | exact heap_bt2 _ _ _ | exact heap_bt3 _ _ _ _ | exact heap_ct3 _ _ _ _)); (focus (first | exact ho5 | exact ho5.alloc _ | exact (ho5.alloc _).alloc _)))); obtain ⟨c0, c1, c2, cf⟩ := cur_cells hA6; have f0 := cf 0; have f1 := cf 1; have f2 := cf 2; clear cf)); (try (refine (fun (hA6 : w6.heap[w2.heap.size + 1 + 1]? = some (Obj.cells #[.int .i64 0, .int .i64 0, .slice none 0 0] 41)) => ?_) ?_; rotate_left; (focus (refine heap_keep (B := w2.heap.size) (l := D) ?_ ?_ hg6; (focus (first | exact hA5 | exact heap_up1 hA5 | exact heap_up1 (heap_up1 hA5) | exact heap_at1 _ _ | exact heap_at2 _ _ _ | exact heap_at3 _ _ _ _ | exact heap_bt2 _ _ _ | exact heap_bt3 _ _ _ _ | exact heap_ct3 _ _ _ _)); (focus (first | exact ho5 | exact ho5.alloc _ | exact (ho5.alloc _).alloc _)))); obtain ⟨c0, c1, c2, cf⟩ := cur_cells hA6; have f0 := cf 0; have f1 := cf 1; have f2 := cf 2; clear cf)); skip)))
        · first | refine ⟨rfl, ⟨w2.heap.size, w5.heap.size, w6.heap.size, a5, n5, c5, a6, n6, c6⟩, ?_, ?_⟩ | refine ⟨⟨w2.heap.size, w5.heap.size, w6.heap.size, a5, n5, c5, a6, n6, c6⟩, ?_, ?_⟩
          · kernel_rfl
          · first | exact ⟨heap_at1 _ _, ho6.alloc _, by assumption⟩ | exact ⟨(box_done (heap_at1 _ _) (ho6.alloc _)).1, (box_done (heap_at1 _ _) (ho6.alloc _)).2, by assumption⟩
        · first | refine ⟨rfl, ⟨w2.heap.size, w5.heap.size, w5.heap.size + 1, a5, n5, c5, a6, n6, c6⟩, ?_, ?_⟩ | refine ⟨⟨w2.heap.size, w5.heap.size, w5.heap.size + 1, a5, n5, c5, a6, n6, c6⟩, ?_, ?_⟩
          · kernel_rfl
          · exact ⟨(box_done hA6 ho6).1, (box_done hA6 ho6).2, by assumption⟩
        · first | refine ⟨rfl, ⟨w2.heap.size, w5.heap.size + 1, w5.heap.size, a5, n5, c5, a6, n6, c6⟩, ?_, ?_⟩ | refine ⟨⟨w2.heap.size, w5.heap.size + 1, w5.heap.size, a5, n5, c5, a6, n6, c6⟩, ?_, ?_⟩
          · kernel_rfl
          · exact ⟨(box_done hA6 ho6).1, (box_done hA6 ho6).2, by assumption⟩
        · first | refine ⟨rfl, ⟨w2.heap.size, w2.heap.size + 1, w6.heap.size, a5, n5, c5, a6, n6, c6⟩, ?_, ?_⟩ | refine ⟨⟨w2.heap.size, w2.heap.size + 1, w6.heap.size, a5, n5, c5, a6, n6, c6⟩, ?_, ?_⟩
          · kernel_rfl
          · first | exact ⟨heap_at1 _ _, ho6.alloc _, by assumption⟩ | exact ⟨(box_done (heap_at1 _ _) (ho6.alloc _)).1, (box_done (heap_at1 _ _) (ho6.alloc _)).2, by assumption⟩
        · first | refine ⟨rfl, ⟨w2.heap.size, w2.heap.size + 1, w5.heap.size, a5, n5, c5, a6, n6, c6⟩, ?_, ?_⟩ | refine ⟨⟨w2.heap.size, w2.heap.size + 1, w5.heap.size, a5, n5, c5, a6, n6, c6⟩, ?_, ?_⟩
          · kernel_rfl
          · exact ⟨(box_done hA6 ho6).1, (box_done hA6 ho6).2, by assumption⟩
        · first | refine ⟨rfl, ⟨w2.heap.size, w2.heap.size + 1, w2.heap.size + 1 + 1, a5, n5, c5, a6, n6, c6⟩, ?_, ?_⟩ | refine ⟨⟨w2.heap.size, w2.heap.size + 1, w2.heap.size + 1 + 1, a5, n5, c5, a6, n6, c6⟩, ?_, ?_⟩
          · kernel_rfl
          · exact ⟨(box_done hA6 ho6).1, (box_done hA6 ho6).2, by assumption⟩
        · first | refine ⟨rfl, ⟨w2.heap.size, w5.heap.size, w2.heap.size + 1, a5, n5, c5, a6, n6, c6⟩, ?_, ?_⟩ | refine ⟨⟨w2.heap.size, w5.heap.size, w2.heap.size + 1, a5, n5, c5, a6, n6, c6⟩, ?_, ?_⟩
          · kernel_rfl
          · exact ⟨(box_done hA6 ho6).1, (box_done hA6 ho6).2, by assumption⟩
        · first | refine ⟨rfl, ⟨w2.heap.size, w2.heap.size + 1 + 1, w2.heap.size + 1, a5, n5, c5, a6, n6, c6⟩, ?_, ?_⟩ | refine ⟨⟨w2.heap.size, w2.heap.size + 1 + 1, w2.heap.size + 1, a5, n5, c5, a6, n6, c6⟩, ?_, ?_⟩
          · kernel_rfl
          · exact ⟨(box_done hA6 ho6).1, (box_done hA6 ho6).2, by assumption⟩
        · first | refine ⟨rfl, ⟨w2.heap.size + 1, w2.heap.size, w6.heap.size, a5, n5, c5, a6, n6, c6⟩, ?_, ?_⟩ | refine ⟨⟨w2.heap.size + 1, w2.heap.size, w6.heap.size, a5, n5, c5, a6, n6, c6⟩, ?_, ?_⟩
          · kernel_rfl
          · first | exact ⟨heap_at1 _ _, ho6.alloc _, by assumption⟩ | exact ⟨(box_done (heap_at1 _ _) (ho6.alloc _)).1, (box_done (heap_at1 _ _) (ho6.alloc _)).2, by assumption⟩
        · first | refine ⟨rfl, ⟨w2.heap.size + 1, w2.heap.size, w5.heap.size, a5, n5, c5, a6, n6, c6⟩, ?_, ?_⟩ | refine ⟨⟨w2.heap.size + 1, w2.heap.size, w5.heap.size, a5, n5, c5, a6, n6, c6⟩, ?_, ?_⟩
          · kernel_rfl
          · exact ⟨(box_done hA6 ho6).1, (box_done hA6 ho6).2, by assumption⟩
        · first | refine ⟨rfl, ⟨w2.heap.size + 1, w2.heap.size, w2.heap.size + 1 + 1, a5, n5, c5, a6, n6, c6⟩, ?_, ?_⟩ | refine ⟨⟨w2.heap.size + 1, w2.heap.size, w2.heap.size + 1 + 1, a5, n5, c5, a6, n6, c6⟩, ?_, ?_⟩
          · kernel_rfl
          · exact ⟨(box_done hA6 ho6).1, (box_done hA6 ho6).2, by assumption⟩
        · first | refine ⟨rfl, ⟨w2.heap.size + 1 + 1, w2.heap.size, w2.heap.size + 1, a5, n5, c5, a6, n6, c6⟩, ?_, ?_⟩ | refine ⟨⟨w2.heap.size + 1 + 1, w2.heap.size, w2.heap.size + 1, a5, n5, c5, a6, n6, c6⟩, ?_, ?_⟩
          · kernel_rfl
          · exact ⟨(box_done hA6 ho6).1, (box_done hA6 ho6).2, by assumption⟩
        · first | refine ⟨rfl, ⟨w2.heap.size + 1, w5.heap.size, w2.heap.size, a5, n5, c5, a6, n6, c6⟩, ?_, ?_⟩ | refine ⟨⟨w2.heap.size + 1, w5.heap.size, w2.heap.size, a5, n5, c5, a6, n6, c6⟩, ?_, ?_⟩
          · kernel_rfl
          · exact ⟨(box_done hA6 ho6).1, (box_done hA6 ho6).2, by assumption⟩
        · first | refine ⟨rfl, ⟨w2.heap.size + 1, w2.heap.size + 1 + 1, w2.heap.size, a5, n5, c5, a6, n6, c6⟩, ?_, ?_⟩ | refine ⟨⟨w2.heap.size + 1, w2.heap.size + 1 + 1, w2.heap.size, a5, n5, c5, a6, n6, c6⟩, ?_, ?_⟩
          · kernel_rfl
          · exact ⟨(box_done hA6 ho6).1, (box_done hA6 ho6).2, by assumption⟩
        · first | refine ⟨rfl, ⟨w2.heap.size + 1 + 1, w2.heap.size + 1, w2.heap.size, a5, n5, c5, a6, n6, c6⟩, ?_, ?_⟩ | refine ⟨⟨w2.heap.size + 1 + 1, w2.heap.size + 1, w2.heap.size, a5, n5, c5, a6, n6, c6⟩, ?_, ?_⟩
          · kernel_rfl
          · exact ⟨(box_done hA6 ho6).1, (box_done hA6 ho6).2, by assumption⟩
      clear A2 E2 HRD HEF hsl hw1 hw2 HL0
      rintro ⟨_, _, X, _, _, _, a6, n6, c6⟩ w6 ⟨hX, ho6, hS6⟩
      simp only [putAll]
      dsimp only at hX ho6
      obtain ⟨p0, p1, p2, -⟩ := cur_cells hX
      have HO6 : Hid (ownsR w6 w2.heap.size 25 (.slice a6 n6 c6) (D ++ [f])) := ho6
      have L6 : P3 w w6 s t tm kd d (.slice ao n c) := L1.below hS6 (by omega)
      have HBt : Hid (okL s t (D ++ [f]) = b) := by
        show _ = b
        rw [← HB.out]; unfold putB; rw [HQ.out, HIN.out, HP.out, HDD.out]; rfl
      have hlen6 : (D ++ [f]).length ≤ 1048577 := by simp; omega
      have HZ6 : Hid (SizedE (D ++ [f])) := fun g hg => by
        rcases List.mem_append.1 hg with h | h
        · exact HZD.out g h
        · rw [List.mem_singleton.1 h, HF.out]; exact HD.out
      clear hX ho6 hS6
      go_wp2_with fail
      refine (specLogOk_any (ownsR.reads HO6.out) hlen6 HZ6.out).mono ?_
      rintro e w7 ⟨rfl, hb7⟩
      rw [HBt.out]
      have L7 := L6.up hb7
      have u0 := cell_up hb7 p0
      have u1 := cell_up hb7 p1
      have u2 := cell_up hb7 p2
      have HO7 : Hid (ownsR w7 w2.heap.size 25 (.slice a6 n6 c6) (D ++ [f])) := HO6.out.all hb7
      clear hb7 L6 p0 p1 p2
      cases b with
      | false =>
        have r0 := L7.r0
        have r1 := L7.r1
        have r2 := L7.r2
        have f0 := L7.f0
        have f1 := L7.f1
        have f2 := L7.f2
        go_wp2
        refine bodyPost_ret (ret_log2 (a := .int .i64 0) (b := .int .i64 0) (c := .slice none 0 0) (x := .bool false) rfl rfl rfl (by simp [go_sem, r0]) (by simp [go_sem, r1]) (by simp [go_sem, r2])) rfl ⟨.slice none 0 0, by unfold putS putT; rw [HB.out]; rfl, ?_, ?_⟩
        · unfold putE; rw [HB.out]
          exact ownsR_nil _ _ _
        · refine Below.setCell (Below.setCell (Below.setCell L7.bel ?_ _) ?_ _) ?_ _ <;> simp <;> omega
      | true =>
        have hs7 := L7.size
        have r0 := L7.r0
        have r1 := L7.r1
        have r2 := L7.r2
        have f0 := L7.f0
        have f1 := L7.f1
        have f2 := L7.f2
        go_wp2
        refine bodyPost_ret (ret_log2 (a := .int .i64 s) (b := .int .i64 t) (c := .slice a6 n6 c6) (x := .bool true) rfl rfl rfl (by simp [go_sem, r0]) (by simp [go_sem, r1]) (by simp [go_sem, r2])) rfl ⟨.slice a6 n6 c6, by unfold putS putT; rw [HB.out]; rfl, ?_, ?_⟩
        · unfold putE; rw [HB.out, if_pos rfl, HP.out, ← HDD.out]
          refine ownsR.mono (ownsR.setBelow (ownsR.setBelow (ownsR.setBelow HO7.out ?_ _) ?_ _) ?_ _) ?_ <;> (try simp) <;> omega
        · refine Below.setCell (Below.setCell (Below.setCell L7.bel ?_ _) ?_ _) ?_ _ <;> simp <;> omega
end Go.Proofs.Ytehkebdncfljmaa

namespace Go.Proofs.Ytehkebdncfljmaa
open Go Go.RowKit
set_option linter.unusedVariables false

/-- What it means that an entry was put. -/
theorem put_yes {s st i : Int} {l : List En} {e : En} (h : putB s st l i e = true) : 0 ≤ s ∧ s ≤ 1000000 ∧ l.length ≤ 60 ∧ ∃ K : Nat, K ≤ l.length ∧ i = s + (K : Int) + 1 ∧ putE s st l i e = l.take K ++ [e] ∧ okL s st (l.take K ++ [e]) = true ∧ putS s st l i e = s ∧ putT s st l i e = st := by
  have h0 := h
  unfold putB at h
  simp only [Bool.and_eq_true] at h
  obtain ⟨⟨h1, h2⟩, h3⟩ := h
  obtain ⟨a0, a1, a2, a3, a4, a5, a6⟩ := okL_all h1
  unfold inP at h2
  simp only [Bool.and_eq_true, decide_eq_true_eq] at h2
  refine ⟨a0, a1, a4, (i - s - 1).toNat, by omega, by omega, ?_, h3, ?_, ?_⟩
  · unfold putE putsL; rw [if_pos h0]
  · unfold putS; rw [if_pos h0]
  · unfold putT; rw [if_pos h0]
theorem put_no {s st i : Int} {l : List En} {e : En} (h : putB s st l i e = false) : putE s st l i e = [] := by
  unfold putE; rw [h]; rfl
theorem put_at {l : List En} {K j : Nat} {e : En} (hK : K ≤ l.length) (hj : j < K) : ∃ f, l[j]? = some f ∧ (l.take K ++ [e])[j]? = some f := by
  have hl : j < l.length := by omega
  refine ⟨l[j], List.getElem?_eq_getElem hl, ?_⟩
  rw [List.getElem?_append_left (by rw [List.length_take]; omega), List.getElem?_take_of_lt hj, List.getElem?_eq_getElem hl]
theorem put_last {l : List En} {K : Nat} {e : En} (hK : K ≤ l.length) : (l.take K ++ [e])[K]? = some e := by
  have : (l.take K).length = K := by rw [List.length_take]; omega
  rw [List.getElem?_append_right (by omega), this, Nat.sub_self]
  rfl
theorem put_len {l : List En} {K : Nat} {e : En} (hK : K ≤ l.length) : (l.take K ++ [e]).length = K + 1 := by
  rw [List.length_append, List.length_take, List.length_singleton]; omega

set_option maxRecDepth 10000 in
set_option maxHeartbeats 8000000 in
theorem law_Puts (v : Value) (n : Nat) (w : World) (hn : n ≤ 9223372036854775807) (hc : CodeAt w w.heap.size v n) :
    Calls Try.prog 5 #[v] w fun e w' => e = .returned (.bool true) ∧ Below w.heap.size w w' := by
  have HCO : Hid (CodeAt w w.heap.size v n) := hc
  obtain ⟨a, cap, rfl, -⟩ := hc
  by_cases hbig : 1048576 < n
  · have HB : Hid (∀ w, Calls Try.prog 6 #[.slice a n cap] w fun e w' => e = .returned (.bool true) ∧ w' = w) := by
      intro w; have := big_any a n cap w hn; rwa [decide_eq_true hbig] at this
    go_enter Try.func5, Try.ntmps5
    go_wp2_with (go_at_call 6; refine (HB.out _).mono ?_; rintro e w1 ⟨rfl, hw⟩; have hw2 := hw.symm; subst hw2)
    go_ret
    exact ⟨rfl, Below.refl _ _⟩
  · have HB : Hid (∀ w, Calls Try.prog 6 #[.slice a n cap] w fun e w' => e = .returned (.bool false) ∧ w' = w) := by
      intro w; have := big_any a n cap w hn; rwa [decide_eq_false hbig] at this
    have HNN : Hid (n ≤ 1048576) := by show n ≤ 1048576; omega
    go_enter Try.func5, Try.ntmps5
    go_wp2_with fail
    refine (HB.out _).mono ?_
    rintro e w1 ⟨rfl, hw⟩
    have hw2 := hw.symm
    subst hw2
    clear HB hbig hn
    go_wp2_with fail
    refine (drawPut_any _ n _ HNN.out HCO.out).mono ?_
    rintro e w2 ⟨s, st, o0, o1, o2, l, i, t, k, d, rfl, hl, hsz, hd, ho, hb2⟩
    have HLE : Hid (o1 = l.length ∧ l.length ≤ 61) := ⟨ho.reads.len, hl⟩
    have HCP : Hid (o1 ≤ o2) := by
      obtain ⟨_, _, h1, h2⟩ := ho.cap
      injection h1 with _ h3 h4
      show o1 ≤ o2
      rw [h3, h4]; exact h2
    have HR2 : Hid (Reads w2 (.slice o0 o1 o2) l) := ho.reads
    have HZ : Hid (SizedE l) := fun f hf => by have := hsz f hf; omega
    have HDZ : Hid (d.size ≤ 1048576) := by show _ ≤ _; omega
    obtain ⟨W2, HW2⟩ : ∃ V, Hid ((w2.alloc (.cells #[.int .i64 s, .int .i64 st, .slice o0 o1 o2] 41)).alloc (.cells #[.int .i64 t, .int .i64 k, .string d] 25) = V) := ⟨_, rfl⟩
    obtain ⟨lb, hlb⟩ : ∃ b, w2.heap.size = b := ⟨_, rfl⟩
    have KL2 : K3 41 W2 lb (.int .i64 s) (.int .i64 st) (.slice o0 o1 o2) := by rw [← HW2.out, ← hlb]; exact (K3.new _ _ _ _ _).alloc _
    have KE2 : K3 25 W2 (lb + 1) (.int .i64 t) (.int .i64 k) (.string d) := by
      rw [← HW2.out, ← hlb]
      have := K3.new 25 (w2.alloc (.cells #[.int .i64 s, .int .i64 st, .slice o0 o1 o2] 41)) (.int .i64 t) (.int .i64 k) (.string d)
      rwa [World.size_alloc] at this
    have B2 : Hid (Below w.heap.size w W2) := by rw [← HW2.out]; exact ba (ba hb2 _) _
    have R2 : Hid (Reads W2 (.slice o0 o1 o2) l) := by rw [← HW2.out]; exact (HR2.out.alloc _).alloc _
    clear HR2 ho hb2 hsz hd hl HNN HCO
    obtain ⟨q, hq⟩ : ∃ q, putB s st l i ⟨t, k, d⟩ = q := ⟨_, rfl⟩
    obtain ⟨ps, hps⟩ : ∃ q, putS s st l i ⟨t, k, d⟩ = q := ⟨_, rfl⟩
    obtain ⟨pt, hpt⟩ : ∃ q, putT s st l i ⟨t, k, d⟩ = q := ⟨_, rfl⟩
    obtain ⟨E, hE⟩ : ∃ q, putE s st l i ⟨t, k, d⟩ = q := ⟨_, rfl⟩
    have HI : Hid (∀ W, Reads W (.slice o0 o1 o2) l → Calls Try.prog 28 #[.agg #[.int .i64 s, .int .i64 st, .slice o0 o1 o2], .int .i64 i, .agg #[.int .i64 t, .int .i64 k, .string d]] W fun e w' => ∃ v, e = .returned (.tuple #[.agg #[.int .i64 ps, .int .i64 pt, v], .bool q]) ∧ ownsR w' W.heap.size 25 v E ∧ Below W.heap.size W w') := fun W h => by
      have := logPut_try s st i t k d o0 o1 o2 l W h HCP.out (by have := HLE.out; omega) HZ.out HDZ.out
      rwa [hq, hps, hpt, hE] at this
    have HS : Hid (∀ W, Reads W (.slice o0 o1 o2) l → Calls Try.prog 29 #[.agg #[.int .i64 s, .int .i64 st, .slice o0 o1 o2], .int .i64 i, .agg #[.int .i64 t, .int .i64 k, .string d]] W fun e w' => ∃ v, e = .returned (.tuple #[.agg #[.int .i64 ps, .int .i64 pt, v], .bool q]) ∧ ownsR w' W.heap.size 25 v E ∧ Below W.heap.size W w') := fun W h => by
      have := specLogPut_try s st i t k d o0 o1 o2 l W h HCP.out (by have := HLE.out; omega) HZ.out HDZ.out
      rwa [hq, hps, hpt, hE] at this
    go_wp2_with fail
    try rw [hlb]
    rw [HW2.out]
    refine (HI.out _ R2.out).mono ?_
    rintro e w3 ⟨v3, rfl, ho3, hb3⟩
    clear hlb
    obtain ⟨n0, nc, rfl⟩ := ho3.slice
    obtain ⟨n1, hn1⟩ : ∃ m, E.length = m := ⟨_, rfl⟩
    have HN3 : Hid (Reads w3 (.slice n0 E.length nc) E) := ho3.reads
    rw [hn1] at HN3
    rw [hn1]
    obtain ⟨W3, HW3⟩ : ∃ V, Hid (w3.alloc (.cells #[.int .i64 ps, .int .i64 pt, .slice n0 n1 nc] 41) = V) := ⟨_, rfl⟩
    obtain ⟨nb, hnb⟩ : ∃ b, w3.heap.size = b := ⟨_, rfl⟩
    have KL3 : K3 41 W3 lb (.int .i64 s) (.int .i64 st) (.slice o0 o1 o2) := by rw [← HW3.out]; exact (KL2.up hb3).alloc _
    have KE3 : K3 25 W3 (lb + 1) (.int .i64 t) (.int .i64 k) (.string d) := by rw [← HW3.out]; exact (KE2.up hb3).alloc _
    have KN3 : K3 41 W3 nb (.int .i64 ps) (.int .i64 pt) (.slice n0 n1 nc) := by rw [← HW3.out, ← hnb]; exact K3.new _ _ _ _ _
    have B3 : Hid (Below w.heap.size w W3) := by rw [← HW3.out]; exact ba (Below.on B2.out hb3) _
    have R3 : Hid (Reads W3 (.slice o0 o1 o2) l) := by rw [← HW3.out]; exact (R2.out.below hb3).alloc _
    have N3 : Hid (Reads W3 (.slice n0 n1 nc) E) := by rw [← HW3.out]; exact HN3.out.alloc _
    have y0 := KL3.c0
    have y1 := KL3.c1
    have y2 := KL3.c2
    have z0 := KE3.c0
    have z1 := KE3.c1
    have z2 := KE3.c2
    clear ho3 hb3 HN3 KL2 KE2 B2 R2 HW2 HI
    go_wp2_with (first | rw [HW3.out] | rw [hnb])
    clear y0 y1 y2 z0 z1 z2 hnb
    refine (HS.out _ R3.out).mono ?_
    rintro e w4 ⟨v4, rfl, ho4, hb4⟩
    obtain ⟨s0, s2, rfl⟩ := ho4.slice
    obtain ⟨W4, HW4⟩ : ∃ V, Hid (w4.alloc (.cells #[.int .i64 ps, .int .i64 pt, .slice s0 E.length s2] 41) = V) := ⟨_, rfl⟩
    have KL4 : K3 41 W4 lb (.int .i64 s) (.int .i64 st) (.slice o0 o1 o2) := by rw [← HW4.out]; exact (KL3.up hb4).alloc _
    have KE4 : K3 25 W4 (lb + 1) (.int .i64 t) (.int .i64 k) (.string d) := by rw [← HW4.out]; exact (KE3.up hb4).alloc _
    have KN4 : K3 41 W4 nb (.int .i64 ps) (.int .i64 pt) (.slice n0 n1 nc) := by rw [← HW4.out]; exact (KN3.up hb4).alloc _
    have B4 : Hid (Below w.heap.size w W4) := by rw [← HW4.out]; exact ba (Below.on B3.out hb4) _
    have R4 : Hid (Reads W4 (.slice o0 o1 o2) l) := by rw [← HW4.out]; exact (R3.out.below hb4).alloc _
    have N4 : Hid (Reads W4 (.slice n0 n1 nc) E) := by rw [← HW4.out]; exact (N3.out.below hb4).alloc _
    clear ho4 hb4 KL3 KE3 KN3 B3 R3 N3 HW3 HS
    cases q with
    | false =>
      have hz : n1 = 0 := by rw [← hn1, ← hE, put_no hq]; rfl
      subst hz
      clear hq hps hpt hE hn1
      have y2 := KN4.c2
      go_wp2_with (rw [HW4.out])
      go_ret
      exact ⟨rfl, B4.out⟩
    | true =>
      obtain ⟨s0', s1', l60, K, hK, rfl, hE2, hok, hs2, ht2⟩ := put_yes hq
      rw [hps] at hs2
      rw [hpt] at ht2
      rw [hE] at hE2
      subst hs2 ht2 hE2
      have hn : n1 = K + 1 := by rw [← hn1]; exact put_len hK
      subst hn
      have HZE : Hid (SizedE (l.take K ++ [⟨t, k, d⟩])) := fun f hf => by
        rcases List.mem_append.1 hf with hf | hf
        · exact HZ.out f (List.mem_of_mem_take hf)
        · rw [List.mem_singleton.1 hf]; exact HDZ.out
      have HEL : Hid ((l.take K ++ [⟨t, k, d⟩])[K]? = some (⟨t, k, d⟩ : En)) := put_last hK
      have HEJ : Hid (∀ j, j < K → ∃ f : En, l[j]? = some f ∧ (l.take K ++ [⟨t, k, d⟩])[j]? = some f) := fun j hj => put_at hK hj
      have hkl : K ≤ 60 := by omega
      have hps0 : -9223372036854775808 ≤ ps := by omega
      obtain ⟨E, hE⟩ : ∃ E : List En, l.take K ++ [⟨t, k, d⟩] = E := ⟨_, rfl⟩
      rw [hE] at HZE HEL HEJ hok N4 hn1
      rw [hE] at HW4
      rw [hE]
      obtain ⟨b, o, rfl, hb, c0, c1, c2⟩ := en_at N4.out HEL.out
      have HLA : Hid (∀ W, Calls Try.prog 24 #[.agg #[.int .i64 ps, .int .i64 pt, .slice (some ⟨b, o, none⟩) (K + 1) nc]] W fun e w' => e = .returned (.int .i64 (ps + (K : Int) + 1)) ∧ Below W.heap.size W w') := fun W => by
        have := last_any (.nilIface) ps pt (some ⟨b, o, none⟩) (K + 1) nc W hps0 (by omega) (by omega)
        rwa [show ps + ((K + 1 : Nat) : Int) = ps + (K : Int) + 1 by omega] at this
      have HLO : Hid (∀ W, Reads W (.slice (some ⟨b, o, none⟩) (K + 1) nc) E → Calls Try.prog 30 #[.agg #[.int .i64 ps, .int .i64 pt, .slice (some ⟨b, o, none⟩) (K + 1) nc]] W fun e w' => e = .returned (.bool true) ∧ Below W.heap.size W w') := fun W h => by
        have := specLogOk_any (s := ps) (t := pt) h (by omega) HZE.out
        rwa [hok] at this
      clear hq hps hpt hok s0' s1' l60 HZE HZ HDZ hn1 hE hps0
      have q0 := Wd.cell KN4.c0
      have q1 := Wd.cell KN4.c1
      have q2 := Wd.cell KN4.c2
      have q3 := Wd.cell KE4.c0
      have q4 := Wd.cell KE4.c1
      have q5 := Wd.cell KE4.c2
      have q6 := Wd.cell c0
      have q7 := Wd.cell c1
      have q8 := Wd.cell c2
      have hix : ∀ wx : World, True := fun _ => trivial
      go_wp2_with (rw [HW4.out])
      refine wp_region_wd (by kernel_rfl) (by kernel_rfl) ?_
      repeat (go_big_quiet_step (first | (go_at_call 24; refine calls_wd (v := .int .i64 (ps + (K : Int) + 1)) ?_; exact HLA.out _) | (go_at_call 30; refine calls_wd (v := .bool true) ?_; exact HLO.out _ (N4.out.below (Wd.ok _)))))
      refine wpQuiet_nil ?_
      rintro _ ⟨x1, rfl⟩
      obtain ⟨W5, HW5⟩ : ∃ V, x1.at' = V := ⟨_, rfl⟩
      have hb5 : Below W4.heap.size W4 W5 := by rw [← HW5]; exact x1.ok
      rw [HW5]
      have KL5 := KL4.up hb5
      have KN5 := KN4.up hb5
      have R5 : Hid (Reads W5 (.slice o0 o1 o2) l) := R4.out.below hb5
      have N5 : Hid (Reads W5 (.slice (some ⟨b, o, none⟩) (K + 1) nc) E) := N4.out.below hb5
      have B5 : Hid (Below w.heap.size w W5) := Below.on B4.out hb5
      clear HW5 x1 q0 q1 q2 q3 q4 q5 q6 q7 q8 c0 c1 c2 hb HLA HLO HEL R4 N4 B4 hb5 KL4 KE4 KN4 HW4
      go_wp2
      go_loopw [10] (fun iv wr => ∃ j : Nat, j ≤ K ∧ iv = .int .i64 j ∧ Hid (Below W5.heap.size W5 wr)) (fun iv _ => K - (intOf iv).toNat)
      case atStart => exact ⟨0, Nat.zero_le _, rfl, Below.refl _ _⟩
      case round =>
        obtain ⟨j, hj, rfl, HB⟩ := hrel
        have m2 := (KN5.up HB.out).c2
        by_cases hlt : j < K
        · obtain ⟨f, hf1, hf2⟩ := HEJ.out j hlt
          obtain ⟨b1, p1, rfl, hb1, a0, a1, a2⟩ := en_at (R5.out.below HB.out) hf1
          obtain ⟨b2, p2, hbo, hb2, e0, e1, e2⟩ := en_at (N5.out.below HB.out) hf2
          cases hbo
          have l2 := (KL5.up HB.out).c2
          have hjl : j < o1 := by have := HLE.out; omega
          clear hf1 hf2
          go_wp2
          go_quiet (fail)
          go_wp2
          go_roundw
          case rel => exact ⟨j + 1, by omega, by go_num, bdrewN HB.out _⟩
          case measure => simp [intOf]; omega
        · have hjk : j = K := by omega
          subst hjk
          go_wp2
          go_ret
          exact ⟨rfl, Below.on B5.out HB.out⟩
end Go.Proofs.Ytehkebdncfljmaa
