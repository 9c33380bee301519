/-
  What is free next, in a heap of the library over the program's own row of places: the methods' walks. The methods of the row of places, found through its pointer. What is free next, in a heap of the library: the walks of the heap's own functions. What is free next, in a heap of the library: what goes down, and what is put into it and taken out of it, the walks.
-/
import Derived.Test.YtjmclcjhimcehaaGreatDoorG3
import Derived.Test.YtjmclcjhimcehaaGreatDoorG19
import Derived.Test.YtjmclcjhimcehaaGreatDoorG21
import Derived.Test.YtjmclcjhimcehaaGreatDoorInf
import Derived.BigRegion
namespace Go.Proofs.YtjmclcjhimcehaaGreatDoor
open Go Go.RowKit
set_option linter.unusedVariables false

/-- The box of the places. -/
def Hbx (W : World) (b : Nat) (v : Value) : Prop := W.heap[b]? = some (.cells #[v] 183)
theorem Hbx.lt {W : World} {b : Nat} {v : Value} (h : Hbx W b v) : b < W.heap.size := (Array.getElem?_eq_some_iff.1 (show W.heap[b]? = _ from h)).1
theorem Hbx.cell {W : World} {b : Nat} {v : Value} (h : Hbx W b v) : W.cell? ⟨b, 0, none⟩ = some v := by simp [World.cell?, show W.heap[b]? = _ from h]
theorem Hbx.fz {W : World} {b : Nat} {v : Value} (h : Hbx W b v) : W.frozen? ⟨b, 0, none⟩ = false := by simp [World.frozen?, show W.heap[b]? = _ from h]
theorem Hbx.up {W W' : World} {b : Nat} {v : Value} (h : Hbx W b v) (hb : Below W.heap.size W W') : Hbx W' b v := (hb.block b h.lt).trans h
theorem Hbx.set {W : World} {b : Nat} {v : Value} (h : Hbx W b v) (u : Value) : Hbx (W.setCell ⟨b, 0, none⟩ u) b u := by simp [Hbx, World.setCell, Array.getElem?_modify, show W.heap[b]? = _ from h]
theorem Hbx.new (W : World) (v : Value) : Hbx (W.alloc (.cells #[v] 183)) W.heap.size v := by
  show (W.heap.push _)[W.heap.size]? = _
  simp
theorem Hbx.row {α : Type} [Rec α] {w : World} {B : Nat} {u v : Value} {T : List α} {t : TypeId} {g : Nat} (hf : Hbx w g u) (h : ownsR w B t v T) (ht : t ≠ 183) : v.ownBlock ≠ some g := by
  intro e
  rcases h.2 with ⟨rfl, _⟩ | ⟨g', cap', cur', rfl, _, hg', _⟩
  · cases e
  · have : g' = g := Option.some.inj e
    subst this
    unfold Hbx at hf
    rw [hf] at hg'
    simp only [Option.some.injEq, Obj.cells.injEq] at hg'
    exact ht hg'.2.1.symm
/-- But for a box and a row all that was there is as it was. -/
structure Fr (b : Nat) (r : Option Nat) (w w' : World) : Prop where
  os : w'.os = w.os
  tape : w'.tape = w.tape
  output : w'.output = w.output
  size : w.heap.size ≤ w'.heap.size
  block : ∀ k, k < w.heap.size → k ≠ b → some k ≠ r → w'.heap[k]? = w.heap[k]?
theorem Fr.refl (b : Nat) (r : Option Nat) (w : World) : Fr b r w w := ⟨rfl, rfl, rfl, Nat.le_refl _, fun _ _ _ _ => rfl⟩
theorem Fr.up {b : Nat} {r : Option Nat} {a w w' : World} (h : Fr b r a w) (hb : Below w.heap.size w w') : Fr b r a w' :=
  ⟨hb.os.trans h.os, hb.tape.trans h.tape, hb.output.trans h.output, Nat.le_trans h.size hb.size, fun k hk h1 h2 => (hb.block k (Nat.lt_of_lt_of_le hk h.size)).trans (h.block k hk h1 h2)⟩
theorem Fr.set {b : Nat} {r : Option Nat} {a w : World} (h : Fr b r a w) {p : Addr} (hp : p.block = b ∨ some p.block = r ∨ a.heap.size ≤ p.block) (u : Value) : Fr b r a (w.setCell p u) :=
  ⟨h.os, h.tape, h.output, by rw [show (w.setCell p u).heap.size = w.heap.size by simp [World.setCell]]; exact h.size, fun k hk h1 h2 => (heap_setCell_other w p k u (fun e => by
    rcases hp with hp | hp | hp
    · exact h1 (e.trans hp)
    · exact h2 (by rw [e]; exact hp)
    · omega)).trans (h.block k hk h1 h2)⟩
theorem Fr.grown {b : Nat} {r q : Option Nat} {a w w' : World} (h : Fr b r a w) (hg : w.grownBy w' q) (hq : q = r ∨ ∀ k, q = some k → a.heap.size ≤ k) : Fr b r a w' :=
  ⟨hg.os.trans h.os, hg.tape.trans h.tape, hg.output.trans h.output, Nat.le_trans h.size hg.size, fun k hk h1 h2 => (hg.block k (Nat.lt_of_lt_of_le hk h.size) (fun e => by
    rcases hq with hq | hq
    · exact h2 (e.trans hq)
    · have := hq k e.symm
      omega)).trans (h.block k hk h1 h2)⟩
/-- Worlds that have the box. -/
structure HbW (b : Nat) (v : Value) where
  at' : World
  ok : Hbx at' b v
theorem as_int (x : Int) (w : World) : (Instr.typeAssert (.iface 3 (.int .i64 x)) 20 3 false).run Tryz.prog w = .ok (.int .i64 x) w := by kernel_rfl
/-- What lies there while the heap is worked at. -/
structure Hp (b B : Nat) (r : Option Nat) (W0 W : World) (l : List Int) (v : Value) : Prop where
  box : Hbx W b v
  row : ownsR W B 3 v l
  low : B ≤ b
  fr : Fr b r W0 W
  lies : v.ownBlock = r ∨ ∀ k, v.ownBlock = some k → W0.heap.size ≤ k
  base : B ≤ W0.heap.size
theorem Hp.up {b B : Nat} {r : Option Nat} {W0 W W' : World} {l : List Int} {v : Value} (h : Hp b B r W0 W l v) (hb : Below W.heap.size W W') : Hp b B r W0 W' l v :=
  ⟨h.box.up hb, h.row.all hb, h.low, h.fr.up hb, h.lies, h.base⟩
theorem some_row {α : Type} [Rec α] {w : World} {B e : Nat} {v : Value} {l : List α} (h : ownsR w B e v l) (hl : 0 < l.length) : ∃ g c, v = .slice (some ⟨g, 0, none⟩) l.length c ∧ l.length ≤ c ∧ B ≤ g := by
  rcases h.2 with ⟨_, h'⟩ | ⟨g, cap, cur, rfl, hB, _, h1, _⟩
  · exfalso
    omega
  · exact ⟨g, cap, rfl, h1, hB⟩
theorem cell_int {w : World} {b : Nat} {n : Int} (h : w.cell? ⟨b, 0, none⟩ = some (.int .i64 n)) : ∀ j u, (Rec.cells n)[j]? = some u → w.cell? ⟨b, j, none⟩ = some u ∧ u.oneCell' = true := by
  intro j u hj
  match j, hj with
  | 0, hj => cases hj; exact ⟨h, rfl⟩
  | j + 1, hj => simp [Rec.cells] at hj
theorem getD_at {l : List Int} {i : Nat} (h : i < l.length) : l[i]? = some (l.getD i 0) := by rw [List.getD_eq_getElem?_getD, List.getElem?_eq_getElem h]; rfl
theorem Hp.swap {b B : Nat} {r : Option Nat} {W0 W : World} {l : List Int} {g n c : Nat} (h : Hp b B r W0 W l (.slice (some ⟨g, 0, none⟩) n c)) {i j : Nat} (hi : i < l.length) (hj : j < l.length) :
    Hp b B r W0 ((W.setCell ⟨g, i, none⟩ (.int .i64 (l.getD j 0))).setCell ⟨g, j, none⟩ (.int .i64 (l.getD i 0))) (swapL l i j) (.slice (some ⟨g, 0, none⟩) n c) := by
  have hne : g ≠ b := fun e => h.box.row h.row (by decide) (by show some g = some b; rw [e])
  have hl : some g = r ∨ W0.heap.size ≤ g := by
    rcases h.lies with e | e
    · exact .inl e
    · exact .inr (e g rfl)
  have r1 := int_put h.row (l.getD j 0) (getD_at hi)
  have r2 := int_put r1 (l.getD i 0) (getD_at (l := l.set i (l.getD j 0)) (i := j) (by simpa using hj))
  refine ⟨?_, r2, h.low, (h.fr.set (p := ⟨g, i, none⟩) (.inr hl) _).set (p := ⟨g, j, none⟩) (.inr hl) _, h.lies, h.base⟩
  exact (heap_setCell_other _ ⟨g, j, none⟩ b _ (fun e => hne e.symm)).trans ((heap_setCell_other _ ⟨g, i, none⟩ b _ (fun e => hne e.symm)).trans h.box)
theorem flen_any (ao : Option Addr) (n c : Nat) (w : World) : Calls Tryz.prog 148 #[.slice ao n c] w fun e w' => e = .returned (.int .i64 n) ∧ w' = w := by
  go_enter Tryz.func148, Tryz.ntmps148
  go_wp2
  go_ret
  exact ⟨rfl, rfl⟩
set_option maxHeartbeats 1000000 in
theorem fless_any {w : World} {v : Value} {l : List Int} (i j : Nat) (hr : Reads w v l) (hi : i < l.length) (hj : j < l.length) (hn : l.length ≤ 1048576) :
    Calls Tryz.prog 272 #[v, .int .i64 i, .int .i64 j] w fun e w' => e = .returned (.bool (decide (l.getD i 0 < l.getD j 0))) ∧ Below w.heap.size w w' := by
  obtain ⟨ao, c, rfl, -⟩ := id hr
  obtain ⟨g, o, rfl, hg, c1⟩ := int_at hr (getD_at hi)
  obtain ⟨g', o', e, hg', c2⟩ := int_at hr (getD_at hj)
  obtain ⟨rfl, rfl⟩ : g = g' ∧ o = o' := by simpa using e
  clear e hg'
  generalize l.getD i 0 = x at *
  generalize l.getD j 0 = y at *
  generalize l.length = n at *
  clear hr
  go_enter Tryz.func272, Tryz.ntmps272
  go_wp2
  go_quiet (fail)
  go_wp2
  go_ret
  exact ⟨rfl, bdrewN (Below.refl _ _) _⟩
set_option maxHeartbeats 1000000 in
theorem fswap_any {b B : Nat} {r : Option Nat} {W0 W : World} {l : List Int} {v : Value} (h : Hp b B r W0 W l v) (i j : Nat) (hi : i < l.length) (hj : j < l.length) (hn : l.length ≤ 1048576) :
    Calls Tryz.prog 273 #[v, .int .i64 i, .int .i64 j] W fun e w' => e = .returned (.tuple #[]) ∧ Hp b B r W0 w' (swapL l i j) v := by
  obtain ⟨g, c, rfl, hc, hg⟩ := some_row h.row (by omega)
  obtain ⟨hgs, c1, f1⟩ := int_own h.row (getD_at hi)
  obtain ⟨-, c2, f2⟩ := int_own h.row (getD_at hj)
  have HS : Hid (∀ W', Below W.heap.size W W' → Hp b B r W0 ((W'.setCell ⟨g, i, none⟩ (.int .i64 (l.getD j 0))).setCell ⟨g, j, none⟩ (.int .i64 (l.getD i 0))) (swapL l i j) (.slice (some ⟨g, 0, none⟩) l.length c)) := fun W' hb => (h.up hb).swap hi hj
  obtain ⟨-, c3, f3⟩ := int_own (int_put h.row (l.getD j 0) (getD_at hi)) (getD_at (l := l.set i (l.getD j 0)) (i := j) (by simpa using hj))
  clear h
  generalize (l.set i (l.getD j 0)).getD j 0 = z at *
  generalize l.getD i 0 = x at *
  generalize l.getD j 0 = y at *
  generalize swapL l i j = s at *
  generalize l.length = n at *
  go_enter Tryz.func273, Tryz.ntmps273
  go_wp2
  go_region
  go_wp2
  go_end0
  exact ⟨rfl, (HS.out _ (Below.refl _ _)).up (bdrewN (Below.refl _ _) _)⟩
theorem slice_take {w : World} {B g n c : Nat} {l : List Int} {x : Int} (h : ownsR w B 3 (.slice (some ⟨g, 0, none⟩) n c) (l ++ [x])) : ownsR w B 3 (.slice (some ⟨g, 0, none⟩) l.length c) l := by
  obtain ⟨hp, h2⟩ := h
  refine ⟨?_, ?_⟩
  · exact flat_length l
  · rcases h2 with ⟨h', _⟩ | ⟨g', cap, cur, h', hB, hg, h1, h2, h3, h4⟩
    · cases h'
    · injection h' with e1 e2 e3
      injection e1 with e1
      injection e1 with e1 _ _
      subst e1 e3
      refine .inr ⟨g, c, cur, rfl, hB, hg, ?_, h2, h3, ?_⟩
      · simp at h1
        omega
      · have h5 := congrArg (List.take (l.length * Rec.width Int)) h4
        rw [List.take_take] at h5
        rw [show min (l.length * Rec.width Int) ((l ++ [x]).length * Rec.width Int) = l.length * Rec.width Int by
          rw [List.length_append, Nat.add_mul]; omega] at h5
        rw [h5, List.flatMap_append, List.take_append_of_le_length (Nat.le_of_eq (flat_length l).symm)]
        rw [List.take_of_length_le (Nat.le_of_eq (flat_length l))]
set_option maxHeartbeats 1000000 in
theorem fpop_any {b B : Nat} {r : Option Nat} {W0 W : World} {l : List Int} {x : Int} {v : Value} (h : Hp b B r W0 W (l ++ [x]) v) (hn : l.length ≤ 1048576) :
    Calls Tryz.prog 274 #[.pointer (some ⟨b, 0, none⟩)] W fun e w' => e = .returned (.iface 3 (.int .i64 x)) ∧ ∃ v', Hp b B r W0 w' l v' := by
  obtain ⟨g, c, rfl, hc, hg⟩ := some_row h.row (by simp)
  have hlen : (l ++ [x]).length = l.length + 1 := by simp
  rw [hlen] at h hc
  obtain ⟨hgs, c1, f1⟩ := int_own (i := l.length) (x := x) h.row (by simp)
  have c0 := h.box.cell
  have f0 := h.box.fz
  have hbl := h.box.lt
  have hne : g ≠ b := fun e => h.box.row h.row (by decide) (by show some g = some b; rw [e])
  have HS : Hid (Hp b B r W0 (W.setCell ⟨b, 0, none⟩ (.slice (some ⟨g, 0, none⟩) l.length c)) l (.slice (some ⟨g, 0, none⟩) l.length c)) := by
    refine ⟨h.box.set _, ?_, h.low, h.fr.set (p := ⟨b, 0, none⟩) (.inl rfl) _, h.lies, h.base⟩
    exact ownsRow_setCell_other (slice_take h.row) (a := ⟨b, 0, none⟩) (fun e => hne (Option.some.inj (show some g = some b from e))) _
  clear h hg hgs hlen
  generalize l.length = n at *
  go_enter Tryz.func274, Tryz.ntmps274
  go_wp2
  go_ret
  exact ⟨rfl, _, HS.out⟩
set_option maxHeartbeats 1000000 in
theorem fpush_any {b B : Nat} {r : Option Nat} {W0 W : World} {l : List Int} {v : Value} (h : Hp b B r W0 W l v) (x : Int) (hn : l.length ≤ 1000) :
    Calls Tryz.prog 275 #[.pointer (some ⟨b, 0, none⟩), .iface 3 (.int .i64 x)] W fun e w' => e = .returned (.tuple #[]) ∧ ∃ v', Hp b B r W0 w' (l ++ [x]) v' := by
  obtain ⟨ao, c, rfl⟩ := h.row.slice
  have c0 := h.box.cell
  have f0 := h.box.fz
  have hbl := h.box.lt
  have HH : Hid (Hp b B r W0 W l (.slice ao l.length c)) := h
  have hbs : B ≤ W.heap.size := Nat.le_trans h.base h.fr.size
  clear h
  obtain ⟨n, HN⟩ : ∃ n, Hid (l.length = n) := ⟨_, rfl⟩
  have hn2 : n ≤ 1000 := by rw [← HN.out]; exact hn
  rw [HN.out] at HH c0
  clear hn
  have z0 : ∀ x : HbW b (.slice ao n c), x.at'.cell? ⟨b, 0, none⟩ = some (.slice ao n c) := fun x => x.ok.cell
  haveI : Nonempty (HbW b (.slice ao n c)) := ⟨⟨W, HH.out.box⟩⟩
  go_enter Tryz.func275, Tryz.ntmps275
  go_wp2_with fail
  refine wp_region_pick (fun w' => ∃ x : HbW b (.slice ao n c), w' = x.at') [0, 1, 2, 3, 4] 8 3 (by kernel_rfl) (by decide) (by decide) (by kernel_rfl) (fun _ _ d _ _ h => by cases d <;> exact h) ⟨⟨W.drew, HH.out.box⟩, rfl⟩ ?_
  repeat (refine wpTakes_l rfl (by first | (intro x h; cases h; done) | (intro x h; cases h; exact ⟨_, rfl⟩)) ?_; go_big_quiet_step (fail); refine wpQuiet_nil ?_)
  refine takes_nil ?_
  refine any_one (fuel := 2) (i := 5) (by kernel_rfl) rfl rfl ?_
  intro K hK
  have a0 := as_int x
  go_wp2
  refine hK.out _ _ ⟨⟨W.drew, HH.out.box⟩, rfl⟩ ?_
  clear hK K a0
  refine any_one (fuel := 1) (i := 6) (by kernel_rfl) rfl rfl ?_
  intro K hK
  go_wp2
  obtain ⟨V1, hV1⟩ : ∃ V, (W.alloc (.cells #[.int .i64 x] 3)).drew = V := ⟨_, rfl⟩
  have H1 : Hp b B r W0 V1 l (.slice ao n c) := by rw [← hV1]; exact HH.out.up (ba (Below.refl _ _) _).drew
  have x1 : V1.cell? ⟨W.heap.size, 0, none⟩ = some (.int .i64 x) := by rw [← hV1]; show (W.alloc _).cell? _ = _; simp [go_sem]
  have hs1 : W.heap.size ≤ V1.heap.size := by rw [← hV1]; show _ ≤ (W.alloc _).heap.size; simp
  rw [hV1]
  clear hV1
  refine hK.out _ _ ⟨⟨V1, H1.box⟩, rfl⟩ ?_
  clear hK K
  refine any_one (fuel := 0) (i := 7) (by kernel_rfl) rfl rfl ?_
  intro K hK
  have HB1 : Hid (B ≤ V1.heap.size) := Nat.le_trans hbs hs1
  go_wp2_with (at_builtin; refine append_recW _ V1 rfl (.tmp 7) (.tmp 10) 183 rfl B 3 _ 8 Tryz.underlying183 info3 rfl _ l rfl H1.row (Below.refl _ _) W.heap.size 1 x rfl (cell_int x1) (by rw [HN.out]; omega) (by decide) HB1.out ?_; intro v' w4 ho4 hb4 hg4 hl4)
  have hx4 : Hbx w4 b (.slice ao n c) := (hg4.block b H1.box.lt (fun e => H1.box.row H1.row (by decide) e.symm)).trans H1.box
  have hl0 := H1.lies
  go_wp2
  refine hK.out _ _ ⟨⟨w4, hx4⟩, rfl⟩ ?_
  clear hK K
  refine any_done (by kernel_rfl) ?_
  simp only [List.drop_succ_cons, List.drop_zero]
  obtain ⟨a6, c6, e6⟩ := ho4.slice
  subst e6
  have c4 := hx4.cell
  have f4 := hx4.fz
  have HZ : Hid (Hp b B r W0 (w4.setCell ⟨b, 0, none⟩ (.slice a6 (l ++ [x]).length c6)) (l ++ [x]) (.slice a6 (l ++ [x]).length c6)) := by
    refine ⟨hx4.set _, ?_, H1.low, (H1.fr.grown hg4 ?_).set (p := ⟨b, 0, none⟩) (.inl rfl) _, ?_, H1.base⟩
    · exact ownsRow_setCell_other ho4 (hx4.row ho4 (by decide)) _
    · rcases hl0 with e | e
      · exact .inl e
      · exact .inr e
    · rcases hl4 with e | e
      · rw [e]; exact hl0
      · refine .inr fun k hk => ?_
        rw [e] at hk
        have h5 := H1.fr.size
        cases hk
        exact h5
  clear ho4 hb4 hg4 hl4 hl0 hx4 H1 x1
  generalize (l ++ [x]).length = m6 at *
  go_wp2
  go_end0
  exact ⟨rfl, _, HZ.out⟩
end Go.Proofs.YtjmclcjhimcehaaGreatDoor

namespace Go.Proofs.YtjmclcjhimcehaaGreatDoor
open Go Go.RowKit
set_option linter.unusedVariables false

theorem meth_len {w : World} {b : Nat} {v : Value} (hc : w.cell? ⟨b, 0, none⟩ = some v) : (Go.method 426 186 (.pointer (some ⟨b, 0, none⟩)) "Len").run Tryz.prog w = .ok (148, v) w := by
  have h : (Go.method 426 186 (.pointer (some ⟨b, 0, none⟩)) "Len").run Tryz.prog w = ((do let x ← loadVar 183 ⟨b, 0, none⟩; pure (148, x)) : Sem (FuncId × Value)).run Tryz.prog w := by kernel_rfl
  rw [h]
  simp [loadVar, go_sem, hc]
theorem meth_less {w : World} {b : Nat} {v : Value} (hc : w.cell? ⟨b, 0, none⟩ = some v) : (Go.method 426 186 (.pointer (some ⟨b, 0, none⟩)) "Less").run Tryz.prog w = .ok (272, v) w := by
  have h : (Go.method 426 186 (.pointer (some ⟨b, 0, none⟩)) "Less").run Tryz.prog w = ((do let x ← loadVar 183 ⟨b, 0, none⟩; pure (272, x)) : Sem (FuncId × Value)).run Tryz.prog w := by kernel_rfl
  rw [h]
  simp [loadVar, go_sem, hc]
theorem meth_swap {w : World} {b : Nat} {v : Value} (hc : w.cell? ⟨b, 0, none⟩ = some v) : (Go.method 426 186 (.pointer (some ⟨b, 0, none⟩)) "Swap").run Tryz.prog w = .ok (273, v) w := by
  have h : (Go.method 426 186 (.pointer (some ⟨b, 0, none⟩)) "Swap").run Tryz.prog w = ((do let x ← loadVar 183 ⟨b, 0, none⟩; pure (273, x)) : Sem (FuncId × Value)).run Tryz.prog w := by kernel_rfl
  rw [h]
  simp [loadVar, go_sem, hc]
theorem meth_push {w : World} {b : Nat} : (Go.method 426 186 (.pointer (some ⟨b, 0, none⟩)) "Push").run Tryz.prog w = .ok (275, .pointer (some ⟨b, 0, none⟩)) w := by kernel_rfl
theorem meth_pop {w : World} {b : Nat} : (Go.method 426 186 (.pointer (some ⟨b, 0, none⟩)) "Pop").run Tryz.prog w = .ok (274, .pointer (some ⟨b, 0, none⟩)) w := by kernel_rfl
end Go.Proofs.YtjmclcjhimcehaaGreatDoor

namespace Go.Proofs.YtjmclcjhimcehaaGreatDoor
open Go Go.RowKit
set_option linter.unusedVariables false

set_option maxRecDepth 10000 in
set_option maxHeartbeats 2000000 in
theorem hup_any {b B : Nat} {r : Option Nat} {W0 W : World} {l : List Int} {v : Value} (h : Hp b B r W0 W l v) (j : Nat) (hj : j < l.length) (hn : l.length ≤ 4) :
    Calls Tryz.prog 183 #[.iface 186 (.pointer (some ⟨b, 0, none⟩)), .int .i64 j] W fun e w' => e = .returned (.tuple #[]) ∧ Hp b B r W0 w' (upF 4 l j) v := by
  have HH : Hid (Hp b B r W0 W l v) := h
  clear h
  obtain ⟨n, HN⟩ : ∃ n, Hid (l.length = n) := ⟨_, rfl⟩
  rw [HN.out] at hj hn
  obtain ⟨R, HR⟩ : ∃ R, Hid (upF 4 l j = R) := ⟨_, rfl⟩
  rw [HR.out]
  go_enter Tryz.func183, Tryz.ntmps183
  go_wp2
  go_loopw [1] (fun jv wr => ∃ (k i : Nat) (s : List Int), jv = .int .i64 i ∧ k + i ≤ 3 ∧ i < n ∧ Hid (s.length = n) ∧ Hid (R = upF (4 - k) s i) ∧ Hid (Hp b B r W0 wr s v)) (fun jv _ => (intOf jv).toNat)
  case atStart => exact ⟨0, j, l, rfl, by omega, hj, HN, HR.out.symm, HH⟩
  case round =>
    obtain ⟨k, i, s, rfl, hki, hin, HSL, HRS, HP⟩ := hrel
    have c0 := HP.out.box.cell
    have m0 := meth_less c0
    obtain ⟨p, HPP⟩ : ∃ p, Hid ((i - 1) / 2 = p) := ⟨_, rfl⟩
    have ht : ((i : Int) - 1).tdiv 2 = (p : Int) := by
      rw [← HPP.out]
      have : i = 0 ∨ i = 1 ∨ i = 2 ∨ i = 3 := by omega
      rcases this with rfl | rfl | rfl | rfl <;> decide
    have hpi : p ≤ i := by rw [← HPP.out]; omega
    obtain ⟨f, HFU⟩ : ∃ f, Hid (4 - k = f + 1) := ⟨3 - k, by show 4 - k = 3 - k + 1; omega⟩
    have HUP : Hid (R = if p = i ∨ ¬ s.getD i 0 < s.getD p 0 then s else upF f (swapL s p i) p) := by
      show R = _
      rw [HRS.out, HFU.out, upF, HPP.out]
    by_cases hpe : p = i
    · have HE : Hid (R = s) := HUP.out.trans (if_pos (.inl hpe))
      have HF : Hid (Hp b B r W0 wr R v) := by rw [HE.out]; exact HP
      subst hpe
      clear m0 c0
      go_wp2
      go_end0
      exact ⟨rfl, HF.out⟩
    · have hpl : p < i := by omega
      have hpe2 : ((p : Int) == (i : Int)) = false := by rw [beq_eq_false_iff_ne]; omega
      have HL : Hid (∀ W', Below wr.heap.size wr W' → Calls Tryz.prog 272 #[v, .int .i64 i, .int .i64 p] W' fun e w' => e = .returned (.bool (decide (s.getD i 0 < s.getD p 0))) ∧ Below W'.heap.size W' w') := fun W' hb => fless_any i p (HP.out.up hb).row.reads (by rw [HSL.out]; exact hin) (by rw [HSL.out]; omega) (by rw [HSL.out]; omega)
      have HW : Hid (∀ W', Below wr.heap.size wr W' → Calls Tryz.prog 273 #[v, .int .i64 p, .int .i64 i] W' fun e w' => e = .returned (.tuple #[]) ∧ Hp b B r W0 w' (swapL s p i) v) := fun W' hb => fswap_any (HP.out.up hb) p i (by rw [HSL.out]; omega) (by rw [HSL.out]; exact hin) (by rw [HSL.out]; omega)
      by_cases hq : s.getD i 0 < s.getD p 0
      · have HE : Hid (R = upF (4 - (k + 1)) (swapL s p i) p) := by
          show R = _
          have h1 := HUP.out
          rw [if_neg (by rintro (h | h); exact hpe h; exact h hq)] at h1
          rw [h1, show 4 - (k + 1) = f by have := HFU.out; omega]
        rw [decide_eq_true hq] at HL
        clear hq HUP
        go_wp2_with (go_at_call 272; refine (HL.out _ (Below.refl _ _)).mono ?_; rintro e w1 ⟨rfl, hb1⟩; have m1 := meth_swap (HP.out.up hb1).box.cell; clear m0)
        go_wp2_with (go_at_call 273; refine (HW.out _ hb1).mono ?_; rintro e w2 ⟨rfl, hz2⟩; have HZ : Hid (Hp b B r W0 w2 (swapL s p i) v) := hz2; clear hz2)
        go_roundw
        case rel => exact ⟨k + 1, p, swapL s p i, rfl, by omega, by omega, (by show _ = _; rw [swapL_len]; exact HSL.out), HE, HZ⟩
        case measure => simp [intOf]; omega
      · have HE : Hid (R = s) := HUP.out.trans (if_pos (.inr hq))
        have HF : Hid (∀ W', Below wr.heap.size wr W' → Hp b B r W0 W' R v) := fun W' hb => by rw [HE.out]; exact HP.out.up hb
        rw [decide_eq_false hq] at HL
        clear hq HUP
        go_wp2_with (go_at_call 272; refine (HL.out _ (Below.refl _ _)).mono ?_; rintro e w1 ⟨rfl, hb1⟩)
        go_end0
        exact ⟨rfl, HF.out _ hb1⟩
end Go.Proofs.YtjmclcjhimcehaaGreatDoor

namespace Go.Proofs.YtjmclcjhimcehaaGreatDoor
open Go Go.RowKit
set_option linter.unusedVariables false

set_option maxRecDepth 10000 in
set_option maxHeartbeats 2000000 in
theorem hdown_any {b B : Nat} {r : Option Nat} {W0 W : World} {l : List Int} {v : Value} (h : Hp b B r W0 W l v) (n : Nat) (hl : n < l.length) (hn : n ≤ 3) (hl4 : l.length ≤ 4) :
    Calls Tryz.prog 208 #[.iface 186 (.pointer (some ⟨b, 0, none⟩)), .int .i64 0, .int .i64 n] W fun e w' => (∃ q, e = .returned (.bool q)) ∧ Hp b B r W0 w' (downF 3 l 0 n) v := by
  have HH : Hid (Hp b B r W0 W l v) := h
  clear h
  obtain ⟨m, HN⟩ : ∃ m, Hid (l.length = m) := ⟨_, rfl⟩
  rw [HN.out] at hl hl4
  obtain ⟨R, HR⟩ : ∃ R, Hid (downF 3 l 0 n = R) := ⟨_, rfl⟩
  rw [HR.out]
  go_enter Tryz.func208, Tryz.ntmps208
  go_wp2
  go_loopw [7] (fun iv wr => ∃ (k i : Nat) (s : List Int), iv = .int .i64 i ∧ k ≤ i ∧ i ≤ 3 ∧ (i = 0 ∨ i < n) ∧ k ≤ 2 ∧ Hid (s.length = m) ∧ Hid (R = downF (3 - k) s i n) ∧ Hid (Hp b B r W0 wr s v)) (fun iv _ => 4 - (intOf iv).toNat)
  case atStart => exact ⟨0, 0, l, rfl, Nat.le_refl _, by omega, .inl rfl, by omega, HN, HR.out.symm, HH⟩
  case round =>
    obtain ⟨k, i, s, rfl, hki, hi3, hi0, hk2, HSL, HRS, HP⟩ := hrel
    obtain ⟨f, HFU⟩ : ∃ f, Hid (3 - k = f + 1) := ⟨2 - k, by show 3 - k = 2 - k + 1; omega⟩
    have HD : Hid (R = if n ≤ 2 * i + 1 then s else if s.getD (lesL s i n) 0 < s.getD i 0 then downF f (swapL s i (lesL s i n)) (lesL s i n) n else s) := by
      show R = _
      rw [HRS.out, HFU.out, downF]
    by_cases hen : n ≤ 2 * i + 1
    · have HE : Hid (R = s) := HD.out.trans (if_pos hen)
      have HF : Hid (Hp b B r W0 wr R v) := by rw [HE.out]; exact HP
      have he2 : decide ((n : Int) ≤ 2 * (i : Int) + 1) = true := decide_eq_true (by omega)
      go_wp2
      go_ret
      exact ⟨⟨_, rfl⟩, HF.out⟩
    · have HD1 : Hid (R = if s.getD (lesL s i n) 0 < s.getD i 0 then downF f (swapL s i (lesL s i n)) (lesL s i n) n else s) := HD.out.trans (if_neg hen)
      clear HD
      have hi : i = 0 := by omega
      subst hi
      have hk : k = 0 := by omega
      subst hk
      have HL10 : Hid (∀ W', Below wr.heap.size wr W' → Calls Tryz.prog 272 #[v, .int .i64 1, .int .i64 0] W' fun e w' => e = .returned (.bool (decide (s.getD 1 0 < s.getD 0 0))) ∧ Below W'.heap.size W' w') := fun W' hb => fless_any 1 0 (HP.out.up hb).row.reads (by rw [HSL.out]; omega) (by rw [HSL.out]; omega) (by rw [HSL.out]; omega)
      have HL20 : Hid (∀ W', n = 3 → Below wr.heap.size wr W' → Calls Tryz.prog 272 #[v, .int .i64 2, .int .i64 0] W' fun e w' => e = .returned (.bool (decide (s.getD 2 0 < s.getD 0 0))) ∧ Below W'.heap.size W' w') := fun W' h3 hb => fless_any 2 0 (HP.out.up hb).row.reads (by rw [HSL.out]; omega) (by rw [HSL.out]; omega) (by rw [HSL.out]; omega)
      have HL21 : Hid (∀ W', n = 3 → Below wr.heap.size wr W' → Calls Tryz.prog 272 #[v, .int .i64 2, .int .i64 1] W' fun e w' => e = .returned (.bool (decide (s.getD 2 0 < s.getD 1 0))) ∧ Below W'.heap.size W' w') := fun W' h3 hb => fless_any 2 1 (HP.out.up hb).row.reads (by rw [HSL.out]; omega) (by rw [HSL.out]; omega) (by rw [HSL.out]; omega)
      have HW1 : Hid (∀ W', Below wr.heap.size wr W' → Calls Tryz.prog 273 #[v, .int .i64 0, .int .i64 1] W' fun e w' => e = .returned (.tuple #[]) ∧ Hp b B r W0 w' (swapL s 0 1) v) := fun W' hb => fswap_any (HP.out.up hb) 0 1 (by rw [HSL.out]; omega) (by rw [HSL.out]; omega) (by rw [HSL.out]; omega)
      have HW2 : Hid (∀ W', n = 3 → Below wr.heap.size wr W' → Calls Tryz.prog 273 #[v, .int .i64 0, .int .i64 2] W' fun e w' => e = .returned (.tuple #[]) ∧ Hp b B r W0 w' (swapL s 0 2) v) := fun W' h3 hb => fswap_any (HP.out.up hb) 0 2 (by rw [HSL.out]; omega) (by rw [HSL.out]; omega) (by rw [HSL.out]; omega)
      have hn23 : n = 2 ∨ n = 3 := by omega
      have m0 := meth_less HP.out.box.cell
      have hen2 : decide ((n : Int) ≤ 1) = false := decide_eq_false (by omega)
      have hen3 : decide ((n : Int) ≤ 2 * 0 + 1) = false := decide_eq_false (by omega)
      rcases hn23 with hn2 | hn3
      · have HNN : Hid (n = 2) := hn2
        have hq2 : decide ((2 : Int) < (n : Int)) = false := decide_eq_false (by omega)
        have HLS : Hid (lesL s 0 n = 1) := by show lesL s 0 n = 1; unfold lesL; rw [if_neg (by omega)]
        clear hn2
        clear m0
        have m1 := meth_less (HP.out.up (Below.refl _ _)).box.cell
        by_cases hq : s.getD 1 0 < s.getD 0 0
        · have HE : Hid (R = downF (3 - 1) (swapL s 0 1) 1 n) := by
            show R = _
            rw [HD1.out, HLS.out, if_pos hq, show 3 - 1 = f by have := HFU.out; omega]
          have HL := HL10
          rw [decide_eq_true hq] at HL
          clear hq HD1
          go_wp2_with (go_at_call 272; refine (HL.out _ (Below.refl _ _)).mono ?_; rintro e w5 ⟨rfl, hb5⟩; have hb6 := Below.on (Below.refl _ _) hb5; have m2 := meth_swap (HP.out.up hb6).box.cell; clear m1)
          go_wp2_with (go_at_call 273; refine (HW1.out _ hb6).mono ?_; rintro e w6 ⟨rfl, hz6⟩; have HZ : Hid (Hp b B r W0 w6 (swapL s 0 1) v) := hz6; clear hz6)
          go_roundw
          case rel => exact ⟨1, 1, swapL s 0 1, rfl, by omega, by omega, .inr (by have := HNN.out; omega), by omega, (by show _ = _; rw [swapL_len]; exact HSL.out), HE, HZ⟩
          case measure => simp [intOf]
        · have HE : Hid (R = s) := by
            show R = _
            rw [HD1.out, HLS.out, if_neg hq]
          have HF : Hid (∀ W', Below wr.heap.size wr W' → Hp b B r W0 W' R v) := fun W' hb => by rw [HE.out]; exact HP.out.up hb
          have HL := HL10
          rw [decide_eq_false hq] at HL
          clear hq HD1
          go_wp2_with (go_at_call 272; refine (HL.out _ (Below.refl _ _)).mono ?_; rintro e w5 ⟨rfl, hb5⟩; have hb6 := Below.on (Below.refl _ _) hb5)
          go_ret
          exact ⟨⟨_, rfl⟩, HF.out _ hb6⟩
      · have HNN : Hid (n = 3) := hn3
        have hq2 : decide ((2 : Int) < (n : Int)) = true := decide_eq_true (by omega)
        by_cases hq1 : s.getD 2 0 < s.getD 1 0
        · have HLS : Hid (lesL s 0 n = 2) := by show lesL s 0 n = 2; unfold lesL; rw [if_pos ⟨by omega, hq1⟩]
          rw [decide_eq_true hq1] at HL21
          clear hq1 hn3
          go_wp2_with fail
          refine (HL21.out _ HNN.out (Below.refl _ _)).mono ?_
          rintro e w1 ⟨rfl, hb1⟩
          clear m0
          have m1 := meth_less (HP.out.up hb1).box.cell
          by_cases hq : s.getD 2 0 < s.getD 0 0
          · have HE : Hid (R = downF (3 - 1) (swapL s 0 2) 2 n) := by
              show R = _
              rw [HD1.out, HLS.out, if_pos hq, show 3 - 1 = f by have := HFU.out; omega]
            have HL := HL20
            rw [decide_eq_true hq] at HL
            clear hq HD1
            go_wp2_with (go_at_call 272; refine (HL.out _ HNN.out hb1).mono ?_; rintro e w5 ⟨rfl, hb5⟩; have hb6 := Below.on hb1 hb5; have m2 := meth_swap (HP.out.up hb6).box.cell; clear m1)
            go_wp2_with (go_at_call 273; refine (HW2.out _ HNN.out hb6).mono ?_; rintro e w6 ⟨rfl, hz6⟩; have HZ : Hid (Hp b B r W0 w6 (swapL s 0 2) v) := hz6; clear hz6)
            go_roundw
            case rel => exact ⟨1, 2, swapL s 0 2, rfl, by omega, by omega, .inr (by have := HNN.out; omega), by omega, (by show _ = _; rw [swapL_len]; exact HSL.out), HE, HZ⟩
            case measure => simp [intOf]
          · have HE : Hid (R = s) := by
              show R = _
              rw [HD1.out, HLS.out, if_neg hq]
            have HF : Hid (∀ W', Below wr.heap.size wr W' → Hp b B r W0 W' R v) := fun W' hb => by rw [HE.out]; exact HP.out.up hb
            have HL := HL20
            rw [decide_eq_false hq] at HL
            clear hq HD1
            go_wp2_with (go_at_call 272; refine (HL.out _ HNN.out hb1).mono ?_; rintro e w5 ⟨rfl, hb5⟩; have hb6 := Below.on hb1 hb5)
            go_ret
            exact ⟨⟨_, rfl⟩, HF.out _ hb6⟩
        · have HLS : Hid (lesL s 0 n = 1) := by show lesL s 0 n = 1; unfold lesL; rw [if_neg (by rintro ⟨_, h⟩; exact hq1 h)]
          rw [decide_eq_false hq1] at HL21
          clear hq1 hn3
          go_wp2_with fail
          refine (HL21.out _ HNN.out (Below.refl _ _)).mono ?_
          rintro e w1 ⟨rfl, hb1⟩
          clear m0
          have m1 := meth_less (HP.out.up hb1).box.cell
          by_cases hq : s.getD 1 0 < s.getD 0 0
          · have HE : Hid (R = downF (3 - 1) (swapL s 0 1) 1 n) := by
              show R = _
              rw [HD1.out, HLS.out, if_pos hq, show 3 - 1 = f by have := HFU.out; omega]
            have HL := HL10
            rw [decide_eq_true hq] at HL
            clear hq HD1
            go_wp2_with (go_at_call 272; refine (HL.out _ hb1).mono ?_; rintro e w5 ⟨rfl, hb5⟩; have hb6 := Below.on hb1 hb5; have m2 := meth_swap (HP.out.up hb6).box.cell; clear m1)
            go_wp2_with (go_at_call 273; refine (HW1.out _ hb6).mono ?_; rintro e w6 ⟨rfl, hz6⟩; have HZ : Hid (Hp b B r W0 w6 (swapL s 0 1) v) := hz6; clear hz6)
            go_roundw
            case rel => exact ⟨1, 1, swapL s 0 1, rfl, by omega, by omega, .inr (by have := HNN.out; omega), by omega, (by show _ = _; rw [swapL_len]; exact HSL.out), HE, HZ⟩
            case measure => simp [intOf]
          · have HE : Hid (R = s) := by
              show R = _
              rw [HD1.out, HLS.out, if_neg hq]
            have HF : Hid (∀ W', Below wr.heap.size wr W' → Hp b B r W0 W' R v) := fun W' hb => by rw [HE.out]; exact HP.out.up hb
            have HL := HL10
            rw [decide_eq_false hq] at HL
            clear hq HD1
            go_wp2_with (go_at_call 272; refine (HL.out _ hb1).mono ?_; rintro e w5 ⟨rfl, hb5⟩; have hb6 := Below.on hb1 hb5)
            go_ret
            exact ⟨⟨_, rfl⟩, HF.out _ hb6⟩
set_option maxRecDepth 10000 in
set_option maxHeartbeats 2000000 in
theorem hpush_any {b B : Nat} {r : Option Nat} {W0 W : World} {l : List Int} {v : Value} (h : Hp b B r W0 W l v) (x : Int) (hn : l.length ≤ 3) :
    Calls Tryz.prog 147 #[.iface 186 (.pointer (some ⟨b, 0, none⟩)), .iface 3 (.int .i64 x)] W fun e w' => e = .returned (.tuple #[]) ∧ ∃ v', Hp b B r W0 w' (pushL l x) v' := by
  have m0 := meth_push (w := W) (b := b)
  have HH : Hid (Hp b B r W0 W l v) := h
  clear h
  go_enter Tryz.func147, Tryz.ntmps147
  go_wp2_with fail
  refine (fpush_any HH.out x (by omega)).mono ?_
  rintro e w1 ⟨rfl, v1, h1⟩
  obtain ⟨a1, c1, e1⟩ := h1.row.slice
  subst e1
  have m1 := meth_len h1.box.cell
  have H1 : Hid (Hp b B r W0 w1 (l ++ [x]) (.slice a1 (l ++ [x]).length c1)) := h1
  clear h1 m0
  have hlen : (l ++ [x]).length = l.length + 1 := by simp
  rw [hlen] at m1 H1
  have HU : Hid (Calls Tryz.prog 183 #[.iface 186 (.pointer (some ⟨b, 0, none⟩)), .int .i64 l.length] w1 fun e w' => e = .returned (.tuple #[]) ∧ Hp b B r W0 w' (pushL l x) (.slice a1 (l.length + 1) c1)) := hup_any H1.out l.length (by rw [hlen]; omega) (by rw [hlen]; omega)
  clear hlen
  obtain ⟨n, HN⟩ : ∃ n, Hid (l.length = n) := ⟨_, rfl⟩
  rw [HN.out] at hn m1 HU
  go_wp2_with fail
  refine (flen_any _ _ _ _).mono ?_
  rintro e w2 ⟨rfl, hw⟩
  have hw2 := hw.symm
  subst hw2
  clear m1
  go_wp2_with fail
  refine HU.out.mono ?_
  rintro e w3 ⟨rfl, h3⟩
  go_wp2
  go_end0
  exact ⟨rfl, _, h3⟩
set_option maxRecDepth 10000 in
set_option maxHeartbeats 2000000 in
theorem hpop_any {b B : Nat} {r : Option Nat} {W0 W : World} {l : List Int} {v : Value} (h : Hp b B r W0 W l v) (hne : l ≠ []) (hn : l.length ≤ 4) :
    Calls Tryz.prog 184 #[.iface 186 (.pointer (some ⟨b, 0, none⟩))] W fun e w' => e = .returned (.iface 3 (.int .i64 (minL l))) ∧ ∃ v', Hp b B r W0 w' (restL l) v' := by
  have h0 : 0 < l.length := List.length_pos_iff.2 hne
  obtain ⟨g, c, rfl, hc, hg⟩ := some_row h.row h0
  have m0 := meth_len h.box.cell
  have m1 := meth_swap h.box.cell
  have HS : Hid (Calls Tryz.prog 273 #[.slice (some ⟨g, 0, none⟩) l.length c, .int .i64 0, .int .i64 ((l.length : Int) - 1)] W fun e w' => e = .returned (.tuple #[]) ∧ Hp b B r W0 w' (swapL l 0 (l.length - 1)) (.slice (some ⟨g, 0, none⟩) l.length c)) := by
    have := fswap_any h 0 (l.length - 1) (by omega) (by omega) (by omega)
    rw [show ((l.length - 1 : Nat) : Int) = (l.length : Int) - 1 by omega] at this
    exact this
  have HD : Hid (∀ W', Hp b B r W0 W' (swapL l 0 (l.length - 1)) (.slice (some ⟨g, 0, none⟩) l.length c) → Calls Tryz.prog 208 #[.iface 186 (.pointer (some ⟨b, 0, none⟩)), .int .i64 0, .int .i64 ((l.length : Int) - 1)] W' fun e w' => (∃ q, e = .returned (.bool q)) ∧ Hp b B r W0 w' (restL l ++ [minL l]) (.slice (some ⟨g, 0, none⟩) l.length c)) := fun W' h' => by
    have := hdown_any h' (l.length - 1) (by rw [swapL_len]; omega) (by omega) (by rw [swapL_len]; exact hn)
    rw [show ((l.length - 1 : Nat) : Int) = (l.length : Int) - 1 by omega] at this
    rw [show downF 3 (swapL l 0 (l.length - 1)) 0 (l.length - 1) = popL l from rfl, popL_parts hne] at this
    exact this
  have HP : Hid (∀ W', Hp b B r W0 W' (restL l ++ [minL l]) (.slice (some ⟨g, 0, none⟩) l.length c) → Calls Tryz.prog 274 #[.pointer (some ⟨b, 0, none⟩)] W' fun e w' => e = .returned (.iface 3 (.int .i64 (minL l))) ∧ ∃ v', Hp b B r W0 w' (restL l) v') := fun W' h' => fpop_any h' (by unfold restL; rw [List.length_take]; omega)
  clear h hg
  generalize minL l = mm at *
  generalize restL l = rr at *
  generalize swapL l 0 (l.length - 1) = ss at *
  obtain ⟨n, HN⟩ : ∃ n, Hid (l.length = n) := ⟨_, rfl⟩
  rw [HN.out] at hn h0 hc m0 m1 HS HD HP
  go_enter Tryz.func184, Tryz.ntmps184
  go_wp2_with fail
  refine (flen_any _ _ _ _).mono ?_
  rintro e w2 ⟨rfl, hw⟩
  have hw2 := hw.symm
  subst hw2
  clear m0
  go_wp2_with fail
  refine HS.out.mono ?_
  rintro e w3 ⟨rfl, h3⟩
  have H3 : Hid (Hp b B r W0 w3 ss (.slice (some ⟨g, 0, none⟩) n c)) := h3
  clear h3 m1 HS
  go_wp2_with fail
  refine (HD.out _ H3.out).mono ?_
  rintro e w4 ⟨⟨q, rfl⟩, h4⟩
  have H4 : Hid (Hp b B r W0 w4 (rr ++ [mm]) (.slice (some ⟨g, 0, none⟩) n c)) := h4
  clear h4 H3 HD
  have m4 := meth_pop (w := w4) (b := b)
  go_wp2_with fail
  refine (HP.out _ H4.out).mono ?_
  rintro e w5 ⟨rfl, v5, h5⟩
  go_wp2
  go_ret
  exact ⟨rfl, _, h5⟩
set_option maxHeartbeats 2000000 in
theorem takeLeast_any {b B : Nat} {r : Option Nat} {W0 W : World} {l : List Int} {v : Value} (h : Hp b B r W0 W l v) (hne : l ≠ []) (hn : l.length ≤ 4) :
    Calls Tryz.prog 149 #[.pointer (some ⟨b, 0, none⟩)] W fun e w' => e = .returned (.int .i64 (minL l)) ∧ ∃ v', Hp b B r W0 w' (restL l) v' := by
  have HH := hpop_any h hne hn
  have a0 := as_int (minL l)
  generalize minL l = mm at *
  generalize restL l = rr at *
  go_enter Tryz.func149, Tryz.ntmps149
  go_wp2_with fail
  refine HH.mono ?_
  rintro e w1 ⟨rfl, v1, h1⟩
  go_wp2
  go_ret
  exact ⟨rfl, _, h1⟩
end Go.Proofs.YtjmclcjhimcehaaGreatDoor
