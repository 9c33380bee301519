/-
  Entries moved into a row of the call's own, and what is behind an index: the walks.
-/
import Derived.Test.YtnapjkpkhdbalaaCm
import Derived.Test.YtnapjkpkhdbalaaCy
import Derived.Test.YtnapjkpkhdbalaaLk
namespace Go.Proofs.Ytnapjkpkhdbalaa
open Go Go.RowKit

theorem set_self {α : Type} {l : List α} {k : Nat} {x : α} (h : l[k]? = some x) : l.set k x = l := by
  apply List.ext_getElem?
  intro j
  rw [List.getElem?_set]
  by_cases e : k = j
  · subst e
    rw [if_pos rfl, if_pos (List.getElem?_eq_some_iff.1 h).1, h]
  · rw [if_neg e]
theorem en_one (l : List En) : ∀ x ∈ l, ∀ v ∈ Rec.cells x, v.oneCell' = true := by
  intro x _ v hv
  have hv : v ∈ [Value.int .i64 x.term, .int .i64 x.kind, .string x.data] := hv
  simp only [List.mem_cons, List.not_mem_nil, or_false] at hv
  rcases hv with rfl | rfl | rfl <;> rfl
theorem sizeInfoEn : (Try.prog.info? 42).map (·.size) = some (Rec.width En) := by kernel_rfl

set_option maxRecDepth 8000 in
set_option maxHeartbeats 1000000 in
theorem moved_try (ao : Option Addr) (n c : Nat) (l : List En) (w : World) (hr : Reads w (.slice ao n c) l) (hn : n ≤ 1048576) (hz : SizedE l) :
    Calls Try.prog 36 #[.slice ao n c] w fun e w' => ∃ v, e = .returned v ∧ ownsR w' w.heap.size 42 v l ∧ Below w.heap.size w w' := by
  obtain ⟨i0, hi0, hz0, hz1, hz2⟩ := info_parts infoEn
  have HR : Hid (Reads w (.slice ao n c) l) := hr
  have HN : Hid (n = l.length) := hr.len
  have HZ : Hid (SizedE l) := hz
  clear hr hz
  go_enter Try.func36, Try.ntmps36
  go_wp2_with (at_make; refine wpList_make_full _ rfl _ _ 27 rfl w.heap.size 42 i0 _ 3 underEn hi0 hz0 hz1 .i64 .i64 _ _ n rfl rfl rfl rfl (by rw [hz2]; omega) (by unfold maxLen; omega) (Nat.le_refl _) ?_; intro w1 ho hg)
  have ho1 : ownsR w1 w.heap.size 42 (.slice (some ⟨w.heap.size, 0, none⟩) n n) (List.replicate n (default : En)) := by
    rw [madeEn] at ho
    unfold ownsR
    rw [List.length_replicate]
    exact ho
  have hbel1 : Below w.heap.size w w1 := (Below.refl _ w).grown hg (Nat.le_refl _) (fun j hj => by cases hj)
  obtain ⟨w2, hrun, ho2, hg2⟩ := run_copy_rec (P := Try.prog) w1 27 27 3 42 w.heap.size n w.heap.size ao n c l _ underEn sizeInfoEn ho1 (HR.out.below hbel1) (en_one l)
  have hbel2 : Below w.heap.size w w2 := hbel1.grown hg2 hbel1.size fun k hk => by cases hk; exact Nat.le_refl _
  have HO2 : Hid (ownsR w2 w.heap.size 42 (.slice (some ⟨w.heap.size, 0, none⟩) n n) l) := ho2
  rw [hrun]
  clear hrun ho1 ho hbel1 hg hg2 ho2
  generalize hB : w.heap.size = B at *
  go_wp2
  go_loopw [14] (fun i wr => ∃ k : Nat, k ≤ n ∧ i = .int .i64 k ∧ Hid (ownsR wr B 42 (.slice (some ⟨B, 0, none⟩) n n) l) ∧ Below B w wr) (fun i _ => n - (intOf i).toNat)
  case atStart => exact ⟨0, Nat.zero_le _, rfl, HO2, hbel2⟩
  case round =>
    obtain ⟨k, hk, rfl, HO, hbel⟩ := hrel
    clear HO2 hbel2
    by_cases hlt : k < n
    · obtain ⟨f, hf⟩ : ∃ f, l[k]? = some f := ⟨_, List.getElem?_eq_getElem (by rw [← HN.out]; exact hlt)⟩
      have HF : Hid (l[k]? = some f) := hf
      have hd := HZ.out f (List.mem_of_getElem? hf)
      obtain ⟨hgs, ⟨d0, d1, d2⟩, f0, f1, f2⟩ := en_own HO.out hf
      clear hf
      have hbs : B ≤ wr.heap.size := Nat.le_of_lt hgs
      go_wp2_with (go_at_call 37; refine (cloned_any _ _ _ _ hd).mono ?_; rintro e w3 ⟨rfl, hb3⟩; have hb4 := below_new hb3; have d0' := cell_up hb4 d0; have d1' := cell_up hb4 d1; have d2' := cell_up hb4 d2; have f0' := frozen_up hb4 d0 f0; have f1' := frozen_up hb4 d1 f1; have f2' := frozen_up hb4 d2 f2)
      have R := en_put (HO.out.all hb4) f HF.out
      rw [set_self HF.out] at R
      clear d0 f0 d0' f0' d1 f1 d1' f1' d2 f2 d2' f2'
      go_roundw
      case rel => exact ⟨k + 1, by omega, by go_num, R, ((((hbel.trans (hb4.mono hbs)).setCell (p := ⟨B, k * 3, none⟩) (Nat.le_refl _) _).setCell (p := ⟨B, k * 3 + 1, none⟩) (Nat.le_refl _) _).setCell (p := ⟨B, k * 3 + 2, none⟩) (Nat.le_refl _) _)⟩
      case measure => simp [intOf]; omega
    · go_wp2
      go_ret
      subst hB
      exact ⟨_, rfl, HO.out, hbel⟩
theorem moved_any {w : World} {v : Value} {l : List En} (hr : Reads w v l) (hn : l.length ≤ 1048576) (hz : SizedE l) :
    Calls Try.prog 36 #[v] w fun e w' => ∃ v, e = .returned v ∧ ownsR w' w.heap.size 42 v l ∧ Below w.heap.size w w' := by
  obtain ⟨ao, c, rfl, _⟩ := id hr
  exact moved_try ao _ c l w hr hn hz
end Go.Proofs.Ytnapjkpkhdbalaa
