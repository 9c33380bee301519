/-
  One act done: the program's walk.
-/
import Derived.Test.YtekflgecfcjjiaaDs
namespace Go.Proofs.Ytekflgecfcjjiaa
open Go Go.RowKit Go.Maps

theorem new_act (w : World) (k : Int) (n t o : ByteArray) : Reads (w.alloc (Obj.cells #[.int .i64 k, .string n, .string t, .string o] 45)) (.slice (some ⟨w.heap.size, 0, none⟩) 1 1) [Ac.mk k n t o] := by
  refine ⟨_, 1, rfl, fun _ => ⟨w.heap.size, 0, rfl, by simp, fun i x hx j u hu => ?_⟩⟩
  match i, hx with
  | 0, hx =>
    cases hx
    match j, hu with
    | 0, hu => cases hu; simp [go_sem]
    | 1, hu => cases hu; simp [go_sem]
    | 2, hu => cases hu; simp [go_sem]
    | 3, hu => cases hu; simp [go_sem]
    | j + 4, hu => cases hu
  | i + 1, hx => cases hx
theorem ends_one {l o : List Fl} {a : Ac} {k : Nat} (h : Ends l [a] k o) : (k = 0 ∧ actL l a = none) ∨ (k = 1 ∧ actL l a = some o) := by
  obtain ⟨h1, h2, h3⟩ := h
  have : k = 0 ∨ k = 1 := by simp at h2; omega
  rcases this with rfl | rfl
  · refine .inl ⟨rfl, ?_⟩
    have e : l = o := by simpa using h1
    rw [e]
    exact h3 a rfl
  · refine .inr ⟨rfl, ?_⟩
    simpa using h1

theorem cell_set_alloc {w : World} {p : Addr} {u : Value} (h : w.cell? p = some u) (v : Value) (o : Obj) : ((w.setCell p v).alloc o).cell? p = some v :=
  ((ba (Below.refl _ _) _).cell (by simpa using World.block_lt_of_cell? _ _ h)).trans (World.cell?_setCell_same' _ _ _ (by simp [h]))
theorem ends_zero {l o : List Fl} {a : Ac} {k : Nat} (h : Ends l [a] k o) (ha : actL l a = none) : k = 0 := by
  rcases ends_one h with ⟨hk, _⟩ | ⟨_, h2⟩
  · exact hk
  · rw [ha] at h2; cases h2
theorem ends_first {l o x : List Fl} {a : Ac} {k : Nat} (h : Ends l [a] k o) (ha : actL l a = some x) : k = 1 ∧ o = x := by
  rcases ends_one h with ⟨_, h2⟩ | ⟨hk, h2⟩
  · rw [ha] at h2; cases h2
  · rw [ha] at h2
    exact ⟨hk, by injection h2 with h2; exact h2.symm⟩

set_option maxRecDepth 10000 in
set_option maxHeartbeats 2000000 in
theorem doAct_try (ao : Option Addr) (n c : Nat) (l : List Fl) (kind : Int) (nm tx to : ByteArray) (w : World) (hr : Reads w (.slice ao n c) l) (hn : n ≤ 1048576) (hl : Sized l) (h1 : nm.size ≤ 1048576) (h2 : tx.size ≤ 1048576) (h3 : to.size ≤ 1048576) :
    Calls Try.prog 24 #[.agg #[.slice ao n c], .agg #[.int .i64 kind, .string nm, .string tx, .string to]] w fun e w' => ∃ v, e = .returned (.tuple #[.agg #[v], .bool (actL l ⟨kind, nm, tx, to⟩).isSome]) ∧ ownsR w' w.heap.size 36 v ((actL l ⟨kind, nm, tx, to⟩).getD []) ∧ Below w.heap.size w w' := by
  have HR : Hid (Reads w (.slice ao n c) l) := hr
  have HL : Hid (Sized l) := hl
  have HA : Hid (SizedA [⟨kind, nm, tx, to⟩]) := fun a ha => by simp at ha; subst ha; exact ⟨h1, h2, h3⟩
  clear hr hl
  cases hac : actL l ⟨kind, nm, tx, to⟩ with
  | none =>
    simp only [Option.isSome_none, Option.getD_none]
    go_enter Try.func24, Try.ntmps24
    go_wp2_with (go_at_call 22; refine (doActs_any ao _ n c 1 1 l [⟨kind, nm, tx, to⟩] _ ((((HR.out.alloc _).alloc _).alloc _).alloc _) (by have := new_act ((((w.alloc (Obj.cells #[.slice ao n c] 26)).alloc (Obj.cells #[.int .i64 kind, .string nm, .string tx, .string to] 45)).alloc (Obj.cells #[.slice none 0 0] 26))) kind nm tx to; simpa using this) hn (by decide) HL.out HA.out).mono ?_; rintro e w1 ⟨k, o', v, hE, rfl, hown, hb1⟩; obtain ⟨va, vn, vc, rfl⟩ := hown.slice3; have hk0 := ends_zero hE hac; subst hk0; have s1 : w.heap.size + 1 + 1 < w1.heap.size := (by have := hb1.size; simp at this; omega); have q1 : w1.cell? ⟨w.heap.size + 1 + 1, 0, none⟩ = some (.slice none 0 0) := (hb1.cell (by simp)).trans (by simp [go_sem]); have z1 : w1.frozen? ⟨w.heap.size + 1 + 1, 0, none⟩ = false := (hb1.frozen (by simp)).trans (by simp [go_sem]); have hb0 : Below w.heap.size w w1 := (ba (ba (ba (ba (Below.refl _ _) _) _) _) _).trans (hb1.mono (by simp; omega)); have hown1 : ownsR w1 (w.heap.size + 3) 36 (.slice va vn vc) o' := hown.mono (by simp); clear hown hb1)
    refine bodyPost_ret (ret_disk2 rfl rfl rfl (cell_set_alloc q1 _ _)) rfl ?_
    refine ⟨_, rfl, ownsR_nil _ _ _, ?_⟩
    exact (hb0.setCell (p := ⟨w.heap.size + 1 + 1, 0, none⟩) (by simp; omega) _).alloc (by simp; omega) _
  | some o =>
    simp only [Option.isSome_some, Option.getD_some]
    go_enter Try.func24, Try.ntmps24
    go_wp2_with (go_at_call 22; refine (doActs_any ao _ n c 1 1 l [⟨kind, nm, tx, to⟩] _ ((((HR.out.alloc _).alloc _).alloc _).alloc _) (by have := new_act ((((w.alloc (Obj.cells #[.slice ao n c] 26)).alloc (Obj.cells #[.int .i64 kind, .string nm, .string tx, .string to] 45)).alloc (Obj.cells #[.slice none 0 0] 26))) kind nm tx to; simpa using this) hn (by decide) HL.out HA.out).mono ?_; rintro e w1 ⟨k, o', v, hE, rfl, hown, hb1⟩; obtain ⟨va, vn, vc, rfl⟩ := hown.slice3; obtain ⟨hk0, ho0⟩ := ends_first hE hac; subst hk0; subst ho0; have s1 : w.heap.size + 1 + 1 < w1.heap.size := (by have := hb1.size; simp at this; omega); have q1 : w1.cell? ⟨w.heap.size + 1 + 1, 0, none⟩ = some (.slice none 0 0) := (hb1.cell (by simp)).trans (by simp [go_sem]); have z1 : w1.frozen? ⟨w.heap.size + 1 + 1, 0, none⟩ = false := (hb1.frozen (by simp)).trans (by simp [go_sem]); have hb0 : Below w.heap.size w w1 := (ba (ba (ba (ba (Below.refl _ _) _) _) _) _).trans (hb1.mono (by simp; omega)); have hown1 : ownsR w1 (w.heap.size + 3) 36 (.slice va vn vc) o' := hown.mono (by simp); clear hown hb1)
    refine bodyPost_ret (ret_disk2 rfl rfl rfl (cell_set_alloc q1 _ _)) rfl ?_
    refine ⟨_, rfl, ?_, ?_⟩
    · exact ((hown1.setBelow (by show w.heap.size + 1 + 1 < w.heap.size + 3; omega) _).alloc _).mono (by omega)
    · exact (hb0.setCell (p := ⟨w.heap.size + 1 + 1, 0, none⟩) (by simp; omega) _).alloc (by simp; omega) _
end Go.Proofs.Ytekflgecfcjjiaa
