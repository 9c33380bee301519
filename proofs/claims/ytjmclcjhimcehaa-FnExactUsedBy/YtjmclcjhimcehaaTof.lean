/-
  The task of the plan that a run is of, found by the map: the walk.
-/
import Derived.Test.YtjmclcjhimcehaaPmp
namespace Go.Proofs.Ytjmclcjhimcehaa
open Go Go.RowKit Go.Maps
set_option linter.unusedVariables false

def TofP (ps : List Po) (rn : ByteArray) (i : Nat) (e : Ending) (w' : World) : Prop := ∃ tb to9 pool, e = .returned (.pointer (some ⟨tb, to9, none⟩)) ∧ w'.cell? ⟨tb, to9 + 1, none⟩ = some (.string pool) ∧ poolOf ps rn i = some pool
theorem fIx_find (s : ByteArray) : ∀ l : List Po, (fIx l s.data.toList = none ∧ l.find? (fun p => decide (p.name = s)) = none) ∨ ∃ k x, fIx l s.data.toList = some k ∧ l[k]? = some x ∧ l.find? (fun p => decide (p.name = s)) = some x
  | [] => .inl ⟨rfl, rfl⟩
  | p :: r => by
    by_cases h : p.name = s
    · exact .inr ⟨0, p, by unfold fIx; rw [List.findIdx?_cons]; simp [keyN, h], rfl, by simp [h]⟩
    · have hk : (keyN p == s.data.toList) = false := beq_eq_false_iff_ne.2 fun e => h (ByteArray.ext (Array.toList_inj.1 e))
      rcases fIx_find s r with ⟨h1, h2⟩ | ⟨k, x, h1, h2, h3⟩
      · refine .inl ⟨?_, by simp [h, h2]⟩
        unfold fIx at h1 ⊢
        rw [List.findIdx?_cons, hk, h1]
        rfl
      · refine .inr ⟨k + 1, x, ?_, by simpa using h2, by simp [h, h3]⟩
        unfold fIx at h1 ⊢
        rw [List.findIdx?_cons, hk, h1]
        rfl
set_option maxRecDepth 10000 in
set_option maxHeartbeats 2000000 in
theorem taskOf_any (M b o : Nat) (ao : Option Addr) (n cap : Nat) (ps : List Po) (rn : ByteArray) (rf ru re : Int) (rv : Value) (i : Nat) (w : World) (hm : PMap w M b o ps) (hp : DRow OnePl w (.slice ao n cap) ps) (hao : ps ≠ [] → ao = some ⟨b, o, none⟩) (hz : rn.size ≤ 1048577) (hzp : ∀ p ∈ ps, p.tasks.length ≤ 1048576) (hi : i ≤ 1048577) :
    Calls Try.prog 59 #[.map (some M), .agg #[.string rn, .int .i64 rf, .int .i64 ru, .int .i64 re, rv], .int .i64 i] w fun e w' => ((e = .returned (.pointer none) ∧ poolOf ps rn i = none) ∨ TofP ps rn i e w') ∧ Below w.heap.size w w' := by
  obtain ⟨W1, hW1⟩ : ∃ W1, w.alloc (.cells #[.string rn, .int .i64 rf, .int .i64 ru, .int .i64 re, rv] 65) = W1 := ⟨_, rfl⟩
  have hb1 : Below w.heap.size w W1 := by rw [← hW1]; exact ba (Below.refl _ _) _
  have X1 : R5 W1 w.heap.size rn rf ru re rv := by rw [← hW1]; exact R5.new _ _ _ _ _ _
  have hl := pm_look (hm.below hb1) hz
  have c0 := X1.c0
  rcases fIx_find rn ps with ⟨h1, h2⟩ | ⟨k, x, h1, hk, h2⟩
  · have HE : Hid (poolOf ps rn i = none) := by show poolOf ps rn i = none; unfold poolOf; rw [h2]; rfl
    rw [h1] at hl
    have hl2 : (Instr.lookup 102 (.map (some M)) (.string rn) false).run Try.prog W1 = .ok (.pointer none) W1 := hl
    clear hl hm hp hao h1 h2
    go_enter Try.func59, Try.ntmps59
    go_wp2
    go_ret
    exact ⟨.inl ⟨rfl, HE.out⟩, hb1⟩
  · have hne : ps ≠ [] := by rintro rfl; simp at hk
    have eao := hao hne
    subst eao
    rw [h1] at hl
    have hl2 : (Instr.lookup 102 (.map (some M)) (.string rn) false).run Try.prog W1 = .ok (.pointer (some ⟨b, o + k * 9, none⟩)) W1 := hl
    obtain ⟨b', o', tv, e', hb, -, -, -, -, -, p5, -, -, -, htv⟩ := pl_at (C := 0) (hp.below onePl_below hb1) hk
    injection e' with e'
    injection e' with e1 e2 _
    subst e1 e2
    obtain ⟨to, tc, ev⟩ := htv.slice
    subst ev
    obtain ⟨m2, HM2⟩ : ∃ m2, Hid (x.tasks.length = m2) := ⟨_, rfl⟩
    have hm2 : m2 ≤ 1048576 := by rw [← HM2.out]; exact hzp x (List.mem_of_getElem? hk)
    have HPO : Hid (poolOf ps rn i = (x.tasks[i]?).map (·.pool)) := by show poolOf ps rn i = _; unfold poolOf; rw [h2]; rfl
    rw [HM2.out] at p5 htv
    clear hl hm hp hao h1 h2 hk hzp
    by_cases hit : i < m2
    · obtain ⟨t, ht⟩ : ∃ t, x.tasks[i]? = some t := ⟨_, List.getElem?_eq_getElem (by rw [HM2.out]; exact hit)⟩
      obtain ⟨bt, ot, av, et, hbt, -, t1, -, -, -, -⟩ := htv.at ht
      subst et
      have HE : Hid (poolOf ps rn i = some t.pool) := by show poolOf ps rn i = _; rw [HPO.out, ht]; rfl
      clear ht htv
      go_enter Try.func59, Try.ntmps59
      go_wp2
      go_ret
      exact ⟨.inr ⟨_, _, _, rfl, t1, HE.out⟩, hb1⟩
    · have HE : Hid (poolOf ps rn i = none) := by show poolOf ps rn i = _; rw [HPO.out, List.getElem?_eq_none (by rw [HM2.out]; omega)]; rfl
      clear htv
      go_enter Try.func59, Try.ntmps59
      go_wp2
      go_ret
      exact ⟨.inl ⟨rfl, HE.out⟩, hb1⟩
end Go.Proofs.Ytjmclcjhimcehaa
