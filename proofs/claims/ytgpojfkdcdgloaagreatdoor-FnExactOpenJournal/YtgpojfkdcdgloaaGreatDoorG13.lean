/-
  A box that lies there while rows are appended to: small facts. An entry put into a log, as the specification tells it: the walk.
-/
import Derived.Test.YtgpojfkdcdgloaaGreatDoorG7
import Derived.Test.YtgpojfkdcdgloaaGreatDoorG6
namespace Go.Proofs.YtgpojfkdcdgloaaGreatDoor
open Go Go.RowKit
theorem heap_alloc_at (w : World) (o : Obj) (i : Nat) : (w.alloc o).heap[i]? = if i = w.heap.size then some o else w.heap[i]? := by
  show (w.heap.push o)[i]? = _
  rw [Array.getElem?_push]
theorem undrew {B : Nat} {a w : World} (h : Below B a w.drew) : Below B a w := ⟨h.os, h.tape, h.output, h.size, h.block⟩
theorem grown_undrew {w w' : World} {r : Option Nat} (h : w.drew.grownBy w' r) : w.grownBy w' r := ⟨h.os, h.tape, h.output, h.size, h.block⟩
theorem heap_up1 {w : World} {o x : Obj} {i : Nat} (h : w.heap[i]? = some o) : (w.alloc x).heap[i]? = some o := by
  rw [heap_alloc_at, if_neg (Nat.ne_of_lt (Array.getElem?_eq_some_iff.1 h).1), h]
theorem heap_at1 (w : World) (o : Obj) : (w.alloc o).heap[w.heap.size]? = some o := by rw [heap_alloc_at, if_pos rfl]
theorem heap_at2 (w : World) (o x : Obj) : ((w.alloc o).alloc x).heap[w.heap.size]? = some o := heap_up1 (heap_at1 w o)
theorem heap_at3 (w : World) (o x y : Obj) : (((w.alloc o).alloc x).alloc y).heap[w.heap.size]? = some o := heap_up1 (heap_at2 w o x)
theorem heap_bt2 (w : World) (o x : Obj) : ((w.alloc x).alloc o).heap[w.heap.size + 1]? = some o := by have := heap_at1 (w.alloc x) o; rwa [World.size_alloc] at this
theorem heap_bt3 (w : World) (o x y : Obj) : (((w.alloc x).alloc o).alloc y).heap[w.heap.size + 1]? = some o := heap_up1 (heap_bt2 w o x)
theorem heap_ct3 (w : World) (o x y : Obj) : (((w.alloc x).alloc y).alloc o).heap[w.heap.size + 1 + 1]? = some o := by have := heap_at1 ((w.alloc x).alloc y) o; rwa [World.size_alloc, World.size_alloc] at this
/-- The box of a log is no row of entries. -/
theorem not_row29 {w : World} {B X : Nat} {v : Value} {l : List En} {cs : Array Value} (h : w.heap[X]? = some (.cells cs 28)) (ho : ownsR w B 110 v l) : some X ≠ v.ownBlock := by
  rcases ho.2 with ⟨rfl, _⟩ | ⟨g, cap, cur, rfl, _, hgb, _⟩
  · simp [Value.ownBlock]
  · intro e
    obtain rfl : X = g := by simpa [Value.ownBlock] using e
    have := h.symm.trans hgb
    simp at this
theorem heap_grown {w w' : World} {X : Nat} {r : Option Nat} {o : Obj} (hg : w.grownBy w' r) (h : w.heap[X]? = some o) (hne : some X ≠ r) : w'.heap[X]? = some o :=
  (hg.block X (Array.getElem?_eq_some_iff.1 h).1 (fun e => hne e)).trans h
theorem heap_keep {w w' : World} {B X : Nat} {v : Value} {l : List En} {cs : Array Value} (h : w.heap[X]? = some (.cells cs 28)) (ho : ownsR w B 110 v l) (hg : w.grownBy w' v.ownBlock) : w'.heap[X]? = some (.cells cs 28) :=
  heap_grown hg h (not_row29 h ho)
theorem Reads.grown {α : Type} [Rec α] {w w' : World} {r : Option Nat} {b o n c : Nat} {l : List α} (h : Reads w (.slice (some ⟨b, o, none⟩) n c) l) (hg : w.grownBy w' r) (hne : some b ≠ r) : Reads w' (.slice (some ⟨b, o, none⟩) n c) l := by
  obtain ⟨ao, cap, e, h⟩ := h
  refine ⟨ao, cap, e, fun hl => ?_⟩
  obtain ⟨b', o', rfl, hlt, hc⟩ := h hl
  simp only [Value.slice.injEq, Option.some.injEq, Addr.mk.injEq, and_true] at e
  obtain ⟨⟨rfl, rfl⟩, _⟩ := e
  exact ⟨b, o, rfl, Nat.lt_of_lt_of_le hlt hg.size, fun i x hx j u hu => cell_other (hc i x hx j u hu) hg hne⟩
theorem box_done {w : World} {B X : Nat} {v x y z : Value} {l : List En} {s t : Int} (h : w.heap[X]? = some (.cells #[x, y, z] 28)) (ho : ownsR w B 110 v l) :
    (((w.setCell ⟨X, 0, none⟩ (.int .i64 s)).setCell ⟨X, 1, none⟩ (.int .i64 t)).setCell ⟨X, 2, none⟩ v).heap[X]? = some (.cells #[.int .i64 s, .int .i64 t, v] 28) ∧ ownsR (((w.setCell ⟨X, 0, none⟩ (.int .i64 s)).setCell ⟨X, 1, none⟩ (.int .i64 t)).setCell ⟨X, 2, none⟩ v) B 110 v l := by
  have h1 := cur_set0 h (.int .i64 s)
  have h2 := cur_set1 h1 (.int .i64 t)
  have h3 := cur_set2 h2 v
  refine ⟨h3, ?_⟩
  have hne := not_row29 h ho
  have k : ∀ {W : World} {j : Nat} {u : Value}, ownsR W B 110 v l → ownsR (W.setCell ⟨X, j, none⟩ u) B 110 v l := fun hW => World.ownsRow.kept hW (grown_set _ _ _ _) (.inr (fun e => hne e.symm))
  exact k (k (k ho))
theorem ownsR_made0' {w : World} {B g : Nat} (hg : w.heap.size = g) (hB : B ≤ g) : ownsR (w.alloc (.cells #[] 110)) B 110 (.slice (some ⟨g, 0, none⟩) 0 0) ([] : List En) := by
  subst hg; exact ownsR_made0 w B 110 hB
set_option maxRecDepth 10000 in
theorem slice_to (wx : World) (ao : Option Addr) (n c k : Nat) (h : k ≤ c) : (Instr.slice 26 (.slice ao n c) none (some (.int .i64 (k : Int))) none).run Tryz.prog wx = .ok (.slice ao k c) wx := by
  have hsz : (sizeOf (Tryz.prog.elem 26)).run Tryz.prog wx = .ok 3 wx := by kernel_rfl
  rw [run_slice_h wx 26 ao n c (by kernel_rfl) .i64 (k : Int) (by omega) (by omega), hsz]
  simp only [Result.andThen, sliced, Nat.zero_mul, Nat.sub_zero, Int.toNat_natCast]
  congr 2
  split
  · rfl
  · cases ao <;> simp [Addr.add]
/-- How the region has laid what it makes. -/
structure LayP where
  g0 : Nat
  gE : Nat
  X : Nat
  a1 : Option Addr
  n1 : Nat
  c1 : Nat
  a2 : Option Addr
  n2 : Nat
  c2 : Nat
end Go.Proofs.YtgpojfkdcdgloaaGreatDoor

namespace Go.Proofs.YtgpojfkdcdgloaaGreatDoor
open Go Go.RowKit

set_option maxRecDepth 10000 in
set_option maxHeartbeats 4000000 in
theorem specLogPut_try (s t i tm kd : Int) (d : ByteArray) (ao : Option Addr) (n c : Nat) (l : List En) (w : World) (hr : Reads w (.slice ao n c) l) (hc : n ≤ c) (hn : n ≤ 1048576) (hz : SizedE l) (hd : d.size ≤ 1048576) :
    Calls Tryz.prog 65 #[.agg #[.int .i64 s, .int .i64 t, .slice ao n c], .int .i64 i, .agg #[.int .i64 tm, .int .i64 kd, .string d]] w fun e w' => ∃ v, e = .returned (.tuple #[.agg #[.int .i64 (putS s t l i ⟨tm, kd, d⟩), .int .i64 (putT s t l i ⟨tm, kd, d⟩), v], .bool (putB s t l i ⟨tm, kd, d⟩)]) ∧ ownsR w' w.heap.size 110 v (putE s t l i ⟨tm, kd, d⟩) ∧ Below w.heap.size w w' := by
  have HR : Hid (Reads w (.slice ao n c) l) := hr
  have HN : Hid (n = l.length) := hr.len
  have HZ : Hid (SizedE l) := hz
  have HD : Hid (d.size ≤ 1048576) := hd
  clear hr hz hd
  obtain ⟨f, HF⟩ : ∃ f : En, Hid (f = ⟨tm, kd, d⟩) := ⟨_, rfl⟩
  rw [← HF.out]
  obtain ⟨q, HQ⟩ : ∃ q, Hid (okL s t l = q) := ⟨_, rfl⟩
  obtain ⟨b, HB⟩ : ∃ b, Hid (putB s t l i f = b) := ⟨_, rfl⟩
  rw [HB.out]
  go_enter Tryz.func65, Tryz.ntmps65
  go_wp2_with fail
  have L0 := p3_new w s t tm kd d (.slice ao n c)
  obtain ⟨W, hW⟩ : ∃ W, ((w.alloc (Obj.cells #[.int .i64 s, .int .i64 t, .slice ao n c] 28)).alloc (Obj.cells #[.int .i64 tm, .int .i64 kd, .string d] 110)).alloc (Obj.cells #[.int .i64 0, .int .i64 0, .slice none 0 0] 28) = W := ⟨_, rfl⟩
  rw [hW] at L0 ⊢
  clear hW
  have H1 : Hid (∀ x : Wd W, Calls Tryz.prog 41 #[.agg #[.int .i64 s, .int .i64 t, .slice ao n c]] x.at' fun e w' => e = .returned (.bool q) ∧ Below x.at'.heap.size x.at' w') := fun x => by
    rw [← HQ.out]; exact specLogOk_any (HR.out.below (Below.on L0.bel x.ok)) (by rw [← HN.out]; omega) HZ.out
  cases q with
  | false =>
    have HF2 : Hid (putB s t l i f = false) := by show putB s t l i f = false; unfold putB; rw [HQ.out]; rfl
    have hb0 : b = false := HB.out.symm.trans HF2.out
    subst hb0
    have a0 := L0.a0
    have a1 := L0.a1
    have a2 := L0.a2
    have q0 := Wd.cell a0
    have q1 := Wd.cell a1
    have q2 := Wd.cell a2
    go_wp2
    refine wp_region_wd (by kernel_rfl) (by kernel_rfl) ?_
    repeat (go_big_quiet_step ((first | (go_at_call 41; refine calls_wd (v := .bool false) ?_; exact H1.out _))))
    refine wpQuiet_nil ?_
    rintro _ ⟨y, rfl⟩
    have L1 := L0.up y.ok
    clear q0 q1 q2 a0 a1 a2 L0
    have r0 := L1.r0
    have r1 := L1.r1
    have r2 := L1.r2
    have f0 := L1.f0
    have f1 := L1.f1
    have f2 := L1.f2
    go_wp2
    refine bodyPost_ret (ret_log2 (a := .int .i64 0) (b := .int .i64 0) (c := .slice none 0 0) (x := .bool false) rfl rfl rfl (by simp [go_sem, r0]) (by simp [go_sem, r1]) (by simp [go_sem, r2])) rfl ⟨.slice none 0 0, by unfold putS putT; rw [HF2.out]; rfl, ?_, ?_⟩
    · unfold putE; rw [HF2.out]
      exact ownsR_nil _ _ _
    · refine Below.setCell (Below.setCell (Below.setCell L1.bel ?_ _) ?_ _) ?_ _ <;> simp <;> omega
  | true =>
    obtain ⟨h0, h1, h2, h3, h4, h5, -⟩ := okL_all HQ.out
    rw [← HN.out] at h4 h5
    have h6 : s + 1 ≤ 1000001 := by omega
    have h7 : s + (n : Int) + 1 ≤ 1000001 := by omega
    cases hh : inP s n i with
    | false =>
      have HF2 : Hid (putB s t l i f = false) := by show putB s t l i f = false; unfold putB; rw [← HN.out, hh]; simp
      have hb0 : b = false := HB.out.symm.trans HF2.out
      subst hb0
      have H2 : Hid (∀ w : World, Calls Tryz.prog 36 #[.int .i64 i, .int .i64 (s + 1), .int .i64 (s + n + 1)] w fun e w' => e = .returned (.bool false) ∧ w' = w) := fun w => by
        rw [← hh]; exact in_any _ _ _ _
      clear hh
      have a0 := L0.a0
      have a1 := L0.a1
      have a2 := L0.a2
      have q0 := Wd.cell a0
      have q1 := Wd.cell a1
      have q2 := Wd.cell a2
      go_wp2
      refine wp_region_wd (by kernel_rfl) (by kernel_rfl) ?_
      repeat (go_big_quiet_step ((first | (go_at_call 41; refine calls_wd (v := .bool true) ?_; exact H1.out _) | (go_at_call 83; refine calls_wd (v := .int .i64 (s + n)) ?_; exact l06Last_any _ _ _ _ _ _ h0 h1 h4) | (go_at_call 36; refine calls_wd_same (v := .bool false) ?_; exact H2.out _))))
      refine wpQuiet_nil ?_
      rintro _ ⟨y, rfl⟩
      have L1 := L0.up y.ok
      clear q0 q1 q2 a0 a1 a2 L0
      have r0 := L1.r0
      have r1 := L1.r1
      have r2 := L1.r2
      have f0 := L1.f0
      have f1 := L1.f1
      have f2 := L1.f2
      go_wp2
      refine bodyPost_ret (ret_log2 (a := .int .i64 0) (b := .int .i64 0) (c := .slice none 0 0) (x := .bool false) rfl rfl rfl (by simp [go_sem, r0]) (by simp [go_sem, r1]) (by simp [go_sem, r2])) rfl ⟨.slice none 0 0, by unfold putS putT; rw [HF2.out]; rfl, ?_, ?_⟩
      · unfold putE; rw [HF2.out]
        exact ownsR_nil _ _ _
      · refine Below.setCell (Below.setCell (Below.setCell L1.bel ?_ _) ?_ _) ?_ _ <;> simp <;> omega
    | true =>
      have HIN : Hid (inP s l.length i = true) := by rw [← HN.out]; exact hh
      have H2 : Hid (∀ w : World, Calls Tryz.prog 36 #[.int .i64 i, .int .i64 (s + 1), .int .i64 (s + n + 1)] w fun e w' => e = .returned (.bool true) ∧ w' = w) := fun w => by
        rw [← hh]; exact in_any _ _ _ _
      have hh2 : s + 1 ≤ i ∧ i ≤ s + n + 1 := by simpa [inP] using hh
      clear hh
      obtain ⟨k, hk⟩ : ∃ k : Nat, i = s + k + 1 := ⟨(i - s - 1).toNat, by omega⟩
      have hkn : k ≤ n := by omega
      have HP : Hid (putsL s l i f = l.take k ++ [f]) := by show _ = _; unfold putsL; rw [show (i - s - 1).toNat = k by omega]
      obtain ⟨D, HDD⟩ : ∃ D, Hid (D = l.take k) := ⟨_, rfl⟩
      have hDl : D.length = k := by rw [HDD.out]; simp; have := HN.out; omega
      have HZD : Hid (SizedE D) := fun g hg => HZ.out g (List.mem_of_mem_take (by rw [← HDD.out]; exact hg))
      clear hh2
      subst hk
      have e1 : s + (k : Int) + 1 - s = (k : Int) + 1 := by omega
      have a0 := L0.a0
      have a1 := L0.a1
      have a2 := L0.a2
      have q0 := Wd.cell a0
      have q1 := Wd.cell a1
      have q2 := Wd.cell a2
      go_wp2
      refine wp_region_wd (by kernel_rfl) (by kernel_rfl) ?_
      repeat (go_big_quiet_step ((first | (go_at_call 41; refine calls_wd (v := .bool true) ?_; exact H1.out _) | (go_at_call 83; refine calls_wd (v := .int .i64 (s + n)) ?_; exact l06Last_any _ _ _ _ _ _ h0 h1 h4) | (go_at_call 36; refine calls_wd_same (v := .bool true) ?_; exact H2.out _))))
      refine wpQuiet_nil ?_
      rintro _ ⟨y, rfl⟩
      have L1 := L0.up y.ok
      clear q0 q1 q2 a0 a1 a2 L0
      obtain ⟨w2, hw2⟩ : ∃ w2, y.at' = w2 := ⟨_, rfl⟩
      rw [hw2] at L1 ⊢
      clear hw2 y H1 H2
      have hs3 := L1.size
      have A0 := Below.cellOf (B := w2.heap.size) (W := w2) (p := ⟨w.heap.size, 0, none⟩) (v := .int .i64 s) (by simp; omega) L1.a0
      have A1 := Below.cellOf (B := w2.heap.size) (W := w2) (p := ⟨w.heap.size, 1, none⟩) (v := .int .i64 t) (by simp; omega) L1.a1
      have A2 := Below.cellOf (B := w2.heap.size) (W := w2) (p := ⟨w.heap.size, 2, none⟩) (v := .slice ao n c) (by simp; omega) L1.a2
      have E0 := Below.cellOf (B := w2.heap.size) (W := w2) (p := ⟨w.heap.size + 1, 0, none⟩) (v := .int .i64 tm) (by simp; omega) L1.e0
      have E1 := Below.cellOf (B := w2.heap.size) (W := w2) (p := ⟨w.heap.size + 1, 1, none⟩) (v := .int .i64 kd) (by simp; omega) L1.e1
      have E2 := Below.cellOf (B := w2.heap.size) (W := w2) (p := ⟨w.heap.size + 1, 2, none⟩) (v := .string d) (by simp; omega) L1.e2
      have HRD : Hid (∀ x, Below w2.heap.size w2 x → Reads x (.slice ao k c) D) := fun x hx => by
        rw [HDD.out]; exact (HR.out.below (L1.below hx (by omega)).bel).take k hkn c
      have hk9 : k ≤ 1048576 := by omega
      have hD1 : D.length + [f].length ≤ 1048577 := by simp; omega
      have i1 : (0 : Int) ≤ (k : Int) := by omega
      have i2 : (k : Int) ≤ (c : Int) := by omega
      have HEF : Hid (∀ (x : World) (g : Nat), x.heap.size = g → Reads (x.alloc (.cells #[.int .i64 tm, .int .i64 kd, .string d] 110)) (.slice (some ⟨g, 0, none⟩) 1 1) [f]) := fun x g hx => by rw [HF.out, ← hx]; exact reads_built x ⟨tm, kd, d⟩
      have hsl : ∀ wx, (Instr.slice 26 (.slice ao n c) none (some (.int .i64 (k : Int))) none).run Tryz.prog wx = .ok (.slice ao k c) wx := fun wx => slice_to wx ao n c k (by omega)
      have hw1 : IntKind.i64.wrap ((k : Int) + 1) = (k : Int) + 1 := by rw [IntKind.wrap_i64]; omega
      have hw2 : IntKind.i64.wrap (k : Int) = (k : Int) := by rw [IntKind.wrap_i64]; omega
      have HL0 : Hid (([] : List En).length + D.length ≤ 1048577) := by show _ ≤ _; simp; omega
      go_wp2
      refine wp_puts (α := LayP) (fun x => [(24, .pointer (some ⟨w.heap.size, 0, none⟩)), (25, .int .i64 s), (26, .pointer (some ⟨w.heap.size, 1, none⟩)), (27, .int .i64 t), (28, .slice (some ⟨x.g0, 0, none⟩) 0 0), (29, .pointer (some ⟨w.heap.size, 2, none⟩)), (30, .slice ao n c), (31, .int .i64 (s + k + 1)), (32, .pointer (some ⟨w.heap.size, 0, none⟩)), (33, .int .i64 s), (34, .int .i64 (k + 1)), (35, .int .i64 k), (36, .slice ao k c), (37, .slice x.a1 x.n1 x.c1), (38, .agg #[.int .i64 tm, .int .i64 kd, .string d]), (39, .slice (some ⟨x.gE, 0, none⟩) 1 1), (40, .slice x.a2 x.n2 x.c2), (41, .agg #[.int .i64 s, .int .i64 t, .slice x.a2 x.n2 x.c2]), (8, .pointer (some ⟨x.X, 0, none⟩))]) (fun x w' => w'.heap[x.X]? = some (.cells #[.int .i64 s, .int .i64 t, .slice x.a2 x.n2 x.c2] 28) ∧ ownsR w' w2.heap.size 110 (.slice x.a2 x.n2 x.c2) (D ++ [f]) ∧ Below w2.heap.size w2 w') ?_ ?_
      · go_region_held3 (fun w' => Below w2.heap.size w2 w') ((first | exact (Below.refl _ _).drew | exact hS5 | exact hS6 | exact Below.alloc (by assumption) (Below.size (by assumption)) _ | (refine Below.setCell (Below.setCell (Below.setCell hS6 ?_ _) ?_ _) ?_ _ <;> (have h5s := hS5.size; first | omega | (simp; omega) | simp)))) ((first | (refine step_append_recs rfl (.tmp 28) (.tmp 36) 26 rfl w2.heap.size 110 _ 32 underEn infoEn rfl _ (.slice ao k c) [] D (by rfl) (by rfl) (by first | exact ownsR_made0' rfl (Nat.le_refl _) | exact (ownsR_made0' (by simp) (by first | omega | (simp; omega) | simp)).alloc _ | exact ((ownsR_made0' (by simp) (by first | omega | (simp; omega) | simp)).alloc _).alloc _ | exact ownsR_made0' (by simp) (by first | omega | (simp; omega) | simp)) (HRD.out _ (by assumption)) (en_one _) HL0.out (by decide) (by first | omega | exact Nat.le_refl _ | (simp <;> omega)) ?_; intro v5 w5 ho5 hg5; replace hg5 : World.grownBy _ w5 (some _) := grown_undrew hg5; (try dsimp only at hg5); obtain ⟨a5, n5, c5, rfl⟩ := ho5.slice3; have hS5 : Below w2.heap.size w2 w5 := Below.grown (undrew (by assumption)) hg5 (by first | omega | exact Nat.le_refl _ | (simp <;> omega)) (fun k hk => by cases hk; first | omega | exact Nat.le_refl _ | (simp <;> omega)); have hz5 := hg5.size; (try simp  at hz5); (try (refine (fun (hA5 : w5.heap[w2.heap.size]? = some (Obj.cells #[.int .i64 0, .int .i64 0, .slice none 0 0] 28)) => ?_) ?_; rotate_left; (focus (refine heap_grown hg5 ?_ ?_; (focus (first | exact heap_at1 _ _ | exact heap_at2 _ _ _ | exact heap_at3 _ _ _ _ | exact heap_bt2 _ _ _ | exact heap_bt3 _ _ _ _ | exact heap_ct3 _ _ _ _)); (focus (show some _ ≠ some _; first | (simp <;> fail) | (intro e; have e2 := Option.some.inj e; (try dsimp only at e2); omega))))))); (try (refine (fun (hA5 : w5.heap[w2.heap.size + 1]? = some (Obj.cells #[.int .i64 0, .int .i64 0, .slice none 0 0] 28)) => ?_) ?_; rotate_left; (focus (refine heap_grown hg5 ?_ ?_; (focus (first | exact heap_at1 _ _ | exact heap_at2 _ _ _ | exact heap_at3 _ _ _ _ | exact heap_bt2 _ _ _ | exact heap_bt3 _ _ _ _ | exact heap_ct3 _ _ _ _)); (focus (show some _ ≠ some _; first | (simp <;> fail) | (intro e; have e2 := Option.some.inj e; omega))))))); (try (refine (fun (hA5 : w5.heap[w2.heap.size + 1 + 1]? = some (Obj.cells #[.int .i64 0, .int .i64 0, .slice none 0 0] 28)) => ?_) ?_; rotate_left; (focus (refine heap_grown hg5 ?_ ?_; (focus (first | exact heap_at1 _ _ | exact heap_at2 _ _ _ | exact heap_at3 _ _ _ _ | exact heap_bt2 _ _ _ | exact heap_bt3 _ _ _ _ | exact heap_ct3 _ _ _ _)); (focus (show some _ ≠ some _; first | (simp <;> fail) | (intro e; have e2 := Option.some.inj e; omega))))))); skip) | (refine step_append_recs rfl (.tmp 37) (.tmp 39) 26 rfl w2.heap.size 110 _ 32 underEn infoEn rfl (.slice a5 n5 c5) _ D [f] (by rfl) (by rfl) (by first | exact ho5 | exact ho5.alloc _ | exact (ho5.alloc _).alloc _) (by first | exact HEF.out _ _ rfl | exact HEF.out _ _ (by simp) | exact (HEF.out _ _ (by simp)).alloc _ | exact Reads.grown (HEF.out _ _ (by simp)) hg5 (by show some _ ≠ some _; simp <;> omega) | exact Reads.grown ((HEF.out _ _ (by simp)).alloc _) hg5 (by show some _ ≠ some _; simp <;> omega) | exact Reads.grown (((HEF.out _ _ (by simp)).alloc _).alloc _) hg5 (by show some _ ≠ some _; simp <;> omega) | exact (Reads.grown (HEF.out _ _ (by simp)) hg5 (by show some _ ≠ some _; simp <;> omega)).alloc _ | exact (Reads.grown ((HEF.out _ _ (by simp)).alloc _) hg5 (by show some _ ≠ some _; simp <;> omega)).alloc _) (en_one _) hD1 (by decide) (by have := hS5.size; first | omega | (simp; omega)) ?_; intro v6 w6 ho6 hg6; obtain ⟨a6, n6, c6, rfl⟩ := ho6.slice3; have hS6 : Below w2.heap.size w2 w6 := Below.grown (by assumption) hg6 (by have := hS5.size; first | omega | (simp; omega)) (fun k hk => (ho5.lt k hk).1); (try (refine (fun (hA6 : w6.heap[w5.heap.size]? = some (Obj.cells #[.int .i64 0, .int .i64 0, .slice none 0 0] 28)) => ?_) ?_; rotate_left; (focus (refine heap_keep (B := w2.heap.size) (l := D) ?_ ?_ hg6; (focus (first | exact heap_at1 _ _ | exact heap_at2 _ _ _ | exact heap_at3 _ _ _ _ | exact heap_bt2 _ _ _ | exact heap_bt3 _ _ _ _ | exact heap_ct3 _ _ _ _)); (focus (first | exact ho5 | exact ho5.alloc _ | exact (ho5.alloc _).alloc _)))); obtain ⟨c0, c1, c2, cf⟩ := cur_cells hA6; have f0 := cf 0; have f1 := cf 1; have f2 := cf 2; clear cf)); (try (refine (fun (hA6 : w6.heap[w5.heap.size + 1]? = some (Obj.cells #[.int .i64 0, .int .i64 0, .slice none 0 0] 28)) => ?_) ?_; rotate_left; (focus (refine heap_keep (B := w2.heap.size) (l := D) ?_ ?_ hg6; (focus (first | exact heap_at1 _ _ | exact heap_at2 _ _ _ | exact heap_at3 _ _ _ _ | exact heap_bt2 _ _ _ | exact heap_bt3 _ _ _ _ | exact heap_ct3 _ _ _ _)); (focus (first | exact ho5 | exact ho5.alloc _ | exact (ho5.alloc _).alloc _)))); obtain ⟨c0, c1, c2, cf⟩ := cur_cells hA6; have f0 := cf 0; have f1 := cf 1; have f2 := cf 2; clear cf)); (try (refine (fun (hA6 : w6.heap[w2.heap.size]? = some (Obj.cells #[.int .i64 0, .int .i64 0, .slice none 0 0] 28)) => ?_) ?_; rotate_left; (focus (refine heap_keep (B := w2.heap.size) (l := D) ?_ ?_ hg6; (focus (first | exact hA5 | exact heap_up1 hA5 | exact heap_up1 (heap_up1 hA5) | exact heap_at1 _ _ | exact heap_at2 _ _ _ | exact heap_at3 _ _ _ _ | exact heap_bt2 _ _ _ | exact heap_bt3 _ _ _ _ | exact heap_ct3 _ _ _ _)); (focus (first | exact ho5 | exact ho5.alloc _ | exact (ho5.alloc _).alloc _)))); obtain ⟨c0, c1, c2, cf⟩ := cur_cells hA6; have f0 := cf 0; have f1 := cf 1; have f2 := cf 2; clear cf)); (try (refine (fun (hA6 : w6.heap[w2.heap.size + 1]? = some (Obj.cells #[.int .i64 0, .int .i64 0, .slice none 0 0] 28)) => ?_) ?_; rotate_left; (focus (refine heap_keep (B := w2.heap.size) (l := D) ?_ ?_ hg6; (focus (first | exact hA5 | exact heap_up1 hA5 | exact heap_up1 (heap_up1 hA5) | exact heap_at1 _ _ | exact heap_at2 _ _ _ | exact heap_at3 _ _ _ _ | exact heap_bt2 _ _ _ | exact heap_bt3 _ _ _ _ | exact heap_ct3 _ _ _ _)); (focus (first | exact ho5 | exact ho5.alloc _ | exact (ho5.alloc _).alloc _)))); obtain ⟨c0, c1, c2, cf⟩ := cur_cells hA6; have f0 := cf 0; have f1 := cf 1; have f2 := cf 2; clear cf)); (try (refine (fun (hA6 : w6.heap[w2.heap.size + 1 + 1]? = some (Obj.cells #[.int .i64 0, .int .i64 0, .slice none 0 0] 28)) => ?_) ?_; rotate_left; (focus (refine heap_keep (B := w2.heap.size) (l := D) ?_ ?_ hg6; (focus (first | exact hA5 | exact heap_up1 hA5 | exact heap_up1 (heap_up1 hA5) | exact heap_at1 _ _ | exact heap_at2 _ _ _ | exact heap_at3 _ _ _ _ | exact heap_bt2 _ _ _ | exact heap_bt3 _ _ _ _ | exact heap_ct3 _ _ _ _)); (focus (first | exact ho5 | exact ho5.alloc _ | exact (ho5.alloc _).alloc _)))); obtain ⟨c0, c1, c2, cf⟩ := cur_cells hA6; have f0 := cf 0; have f1 := cf 1; have f2 := cf 2; clear cf)); skip)))
        · first | refine ⟨rfl, ⟨w2.heap.size, w5.heap.size, w6.heap.size, a5, n5, c5, a6, n6, c6⟩, ?_, ?_⟩ | refine ⟨⟨w2.heap.size, w5.heap.size, w6.heap.size, a5, n5, c5, a6, n6, c6⟩, ?_, ?_⟩
          · kernel_rfl
          · first | exact ⟨heap_at1 _ _, ho6.alloc _, by assumption⟩ | exact ⟨(box_done (heap_at1 _ _) (ho6.alloc _)).1, (box_done (heap_at1 _ _) (ho6.alloc _)).2, by assumption⟩
        · first | refine ⟨rfl, ⟨w2.heap.size, w5.heap.size, w5.heap.size + 1, a5, n5, c5, a6, n6, c6⟩, ?_, ?_⟩ | refine ⟨⟨w2.heap.size, w5.heap.size, w5.heap.size + 1, a5, n5, c5, a6, n6, c6⟩, ?_, ?_⟩
          · kernel_rfl
          · exact ⟨(box_done hA6 ho6).1, (box_done hA6 ho6).2, by assumption⟩
        · first | refine ⟨rfl, ⟨w2.heap.size, w5.heap.size + 1, w5.heap.size, a5, n5, c5, a6, n6, c6⟩, ?_, ?_⟩ | refine ⟨⟨w2.heap.size, w5.heap.size + 1, w5.heap.size, a5, n5, c5, a6, n6, c6⟩, ?_, ?_⟩
          · kernel_rfl
          · exact ⟨(box_done hA6 ho6).1, (box_done hA6 ho6).2, by assumption⟩
        · first | refine ⟨rfl, ⟨w2.heap.size, w2.heap.size + 1, w6.heap.size, a5, n5, c5, a6, n6, c6⟩, ?_, ?_⟩ | refine ⟨⟨w2.heap.size, w2.heap.size + 1, w6.heap.size, a5, n5, c5, a6, n6, c6⟩, ?_, ?_⟩
          · kernel_rfl
          · first | exact ⟨heap_at1 _ _, ho6.alloc _, by assumption⟩ | exact ⟨(box_done (heap_at1 _ _) (ho6.alloc _)).1, (box_done (heap_at1 _ _) (ho6.alloc _)).2, by assumption⟩
        · first | refine ⟨rfl, ⟨w2.heap.size, w2.heap.size + 1, w5.heap.size, a5, n5, c5, a6, n6, c6⟩, ?_, ?_⟩ | refine ⟨⟨w2.heap.size, w2.heap.size + 1, w5.heap.size, a5, n5, c5, a6, n6, c6⟩, ?_, ?_⟩
          · kernel_rfl
          · exact ⟨(box_done hA6 ho6).1, (box_done hA6 ho6).2, by assumption⟩
        · first | refine ⟨rfl, ⟨w2.heap.size, w2.heap.size + 1, w2.heap.size + 1 + 1, a5, n5, c5, a6, n6, c6⟩, ?_, ?_⟩ | refine ⟨⟨w2.heap.size, w2.heap.size + 1, w2.heap.size + 1 + 1, a5, n5, c5, a6, n6, c6⟩, ?_, ?_⟩
          · kernel_rfl
          · exact ⟨(box_done hA6 ho6).1, (box_done hA6 ho6).2, by assumption⟩
        · first | refine ⟨rfl, ⟨w2.heap.size, w5.heap.size, w2.heap.size + 1, a5, n5, c5, a6, n6, c6⟩, ?_, ?_⟩ | refine ⟨⟨w2.heap.size, w5.heap.size, w2.heap.size + 1, a5, n5, c5, a6, n6, c6⟩, ?_, ?_⟩
          · kernel_rfl
          · exact ⟨(box_done hA6 ho6).1, (box_done hA6 ho6).2, by assumption⟩
        · first | refine ⟨rfl, ⟨w2.heap.size, w2.heap.size + 1 + 1, w2.heap.size + 1, a5, n5, c5, a6, n6, c6⟩, ?_, ?_⟩ | refine ⟨⟨w2.heap.size, w2.heap.size + 1 + 1, w2.heap.size + 1, a5, n5, c5, a6, n6, c6⟩, ?_, ?_⟩
          · kernel_rfl
          · exact ⟨(box_done hA6 ho6).1, (box_done hA6 ho6).2, by assumption⟩
        · first | refine ⟨rfl, ⟨w2.heap.size + 1, w2.heap.size, w6.heap.size, a5, n5, c5, a6, n6, c6⟩, ?_, ?_⟩ | refine ⟨⟨w2.heap.size + 1, w2.heap.size, w6.heap.size, a5, n5, c5, a6, n6, c6⟩, ?_, ?_⟩
          · kernel_rfl
          · first | exact ⟨heap_at1 _ _, ho6.alloc _, by assumption⟩ | exact ⟨(box_done (heap_at1 _ _) (ho6.alloc _)).1, (box_done (heap_at1 _ _) (ho6.alloc _)).2, by assumption⟩
        · first | refine ⟨rfl, ⟨w2.heap.size + 1, w2.heap.size, w5.heap.size, a5, n5, c5, a6, n6, c6⟩, ?_, ?_⟩ | refine ⟨⟨w2.heap.size + 1, w2.heap.size, w5.heap.size, a5, n5, c5, a6, n6, c6⟩, ?_, ?_⟩
          · kernel_rfl
          · exact ⟨(box_done hA6 ho6).1, (box_done hA6 ho6).2, by assumption⟩
        · first | refine ⟨rfl, ⟨w2.heap.size + 1, w2.heap.size, w2.heap.size + 1 + 1, a5, n5, c5, a6, n6, c6⟩, ?_, ?_⟩ | refine ⟨⟨w2.heap.size + 1, w2.heap.size, w2.heap.size + 1 + 1, a5, n5, c5, a6, n6, c6⟩, ?_, ?_⟩
          · kernel_rfl
          · exact ⟨(box_done hA6 ho6).1, (box_done hA6 ho6).2, by assumption⟩
        · first | refine ⟨rfl, ⟨w2.heap.size + 1 + 1, w2.heap.size, w2.heap.size + 1, a5, n5, c5, a6, n6, c6⟩, ?_, ?_⟩ | refine ⟨⟨w2.heap.size + 1 + 1, w2.heap.size, w2.heap.size + 1, a5, n5, c5, a6, n6, c6⟩, ?_, ?_⟩
          · kernel_rfl
          · exact ⟨(box_done hA6 ho6).1, (box_done hA6 ho6).2, by assumption⟩
        · first | refine ⟨rfl, ⟨w2.heap.size + 1, w5.heap.size, w2.heap.size, a5, n5, c5, a6, n6, c6⟩, ?_, ?_⟩ | refine ⟨⟨w2.heap.size + 1, w5.heap.size, w2.heap.size, a5, n5, c5, a6, n6, c6⟩, ?_, ?_⟩
          · kernel_rfl
          · exact ⟨(box_done hA6 ho6).1, (box_done hA6 ho6).2, by assumption⟩
        · first | refine ⟨rfl, ⟨w2.heap.size + 1, w2.heap.size + 1 + 1, w2.heap.size, a5, n5, c5, a6, n6, c6⟩, ?_, ?_⟩ | refine ⟨⟨w2.heap.size + 1, w2.heap.size + 1 + 1, w2.heap.size, a5, n5, c5, a6, n6, c6⟩, ?_, ?_⟩
          · kernel_rfl
          · exact ⟨(box_done hA6 ho6).1, (box_done hA6 ho6).2, by assumption⟩
        · first | refine ⟨rfl, ⟨w2.heap.size + 1 + 1, w2.heap.size + 1, w2.heap.size, a5, n5, c5, a6, n6, c6⟩, ?_, ?_⟩ | refine ⟨⟨w2.heap.size + 1 + 1, w2.heap.size + 1, w2.heap.size, a5, n5, c5, a6, n6, c6⟩, ?_, ?_⟩
          · kernel_rfl
          · exact ⟨(box_done hA6 ho6).1, (box_done hA6 ho6).2, by assumption⟩
      clear A2 E2 HRD HEF hsl hw1 hw2 HL0
      rintro ⟨_, _, X, _, _, _, a6, n6, c6⟩ w6 ⟨hX, ho6, hS6⟩
      simp only [putAll]
      dsimp only at hX ho6
      obtain ⟨p0, p1, p2, -⟩ := cur_cells hX
      have HO6 : Hid (ownsR w6 w2.heap.size 110 (.slice a6 n6 c6) (D ++ [f])) := ho6
      have L6 : P3 w w6 s t tm kd d (.slice ao n c) := L1.below hS6 (by omega)
      have HBt : Hid (okL s t (D ++ [f]) = b) := by
        show _ = b
        rw [← HB.out]; unfold putB; rw [HQ.out, HIN.out, HP.out, HDD.out]; rfl
      have hlen6 : (D ++ [f]).length ≤ 1048577 := by simp; omega
      have HZ6 : Hid (SizedE (D ++ [f])) := fun g hg => by
        rcases List.mem_append.1 hg with h | h
        · exact HZD.out g h
        · rw [List.mem_singleton.1 h, HF.out]; exact HD.out
      clear hX ho6 hS6
      go_wp2_with fail
      refine (specLogOk_any (ownsR.reads HO6.out) hlen6 HZ6.out).mono ?_
      rintro e w7 ⟨rfl, hb7⟩
      rw [HBt.out]
      have L7 := L6.up hb7
      have u0 := cell_up hb7 p0
      have u1 := cell_up hb7 p1
      have u2 := cell_up hb7 p2
      have HO7 : Hid (ownsR w7 w2.heap.size 110 (.slice a6 n6 c6) (D ++ [f])) := HO6.out.all hb7
      clear hb7 L6 p0 p1 p2
      cases b with
      | false =>
        have r0 := L7.r0
        have r1 := L7.r1
        have r2 := L7.r2
        have f0 := L7.f0
        have f1 := L7.f1
        have f2 := L7.f2
        go_wp2
        refine bodyPost_ret (ret_log2 (a := .int .i64 0) (b := .int .i64 0) (c := .slice none 0 0) (x := .bool false) rfl rfl rfl (by simp [go_sem, r0]) (by simp [go_sem, r1]) (by simp [go_sem, r2])) rfl ⟨.slice none 0 0, by unfold putS putT; rw [HB.out]; rfl, ?_, ?_⟩
        · unfold putE; rw [HB.out]
          exact ownsR_nil _ _ _
        · refine Below.setCell (Below.setCell (Below.setCell L7.bel ?_ _) ?_ _) ?_ _ <;> simp <;> omega
      | true =>
        have hs7 := L7.size
        have r0 := L7.r0
        have r1 := L7.r1
        have r2 := L7.r2
        have f0 := L7.f0
        have f1 := L7.f1
        have f2 := L7.f2
        go_wp2
        refine bodyPost_ret (ret_log2 (a := .int .i64 s) (b := .int .i64 t) (c := .slice a6 n6 c6) (x := .bool true) rfl rfl rfl (by simp [go_sem, r0]) (by simp [go_sem, r1]) (by simp [go_sem, r2])) rfl ⟨.slice a6 n6 c6, by unfold putS putT; rw [HB.out]; rfl, ?_, ?_⟩
        · unfold putE; rw [HB.out, if_pos rfl, HP.out, ← HDD.out]
          refine ownsR.mono (ownsR.setBelow (ownsR.setBelow (ownsR.setBelow HO7.out ?_ _) ?_ _) ?_ _) ?_ <;> (try simp) <;> omega
        · refine Below.setCell (Below.setCell (Below.setCell L7.bel ?_ _) ?_ _) ?_ _ <;> simp <;> omega
end Go.Proofs.YtgpojfkdcdgloaaGreatDoor
