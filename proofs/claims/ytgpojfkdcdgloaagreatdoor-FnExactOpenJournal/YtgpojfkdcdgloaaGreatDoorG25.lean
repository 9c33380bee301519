/-
  A disk's journal that is opened, as the model does it: the walk of the specification's OpenJournal. A right disk's journal that is opened, as the model does it: the walk of the specification's OpenJournal.
-/
import Derived.Test.YtgpojfkdcdgloaaGreatDoorG24
namespace Go.Proofs.YtgpojfkdcdgloaaGreatDoor
open Go Go.RowKit

theorem goJ_le (s : ByteArray) : ∀ (l : List (ByteArray × Nat)) (z : Jn × Nat) (a : Nat), a ≤ s.size → ChainF s a l → z.2 ≤ s.size → (goJ z l).2 ≤ s.size
  | [], _, _, _, _, h => h
  | x :: l, z, a, ha, hc, h => by
    unfold goJ
    split
    · have hbd := rdF_bd ha (hc.1.trans (by rfl : some x = some (x.1, x.2)))
      exact goJ_le s l _ x.2 hbd.2 hc.2 (by unfold stepJ; first | exact hbd.2 | (split <;> exact hbd.2))
    · exact h
theorem rdJ_le (s : ByteArray) : (rdJ s).2 ≤ s.size := by
  unfold rdJ
  by_cases h : s.size ≤ 20000
  · rw [frq_in h]
    exact goJ_le s _ _ 0 (Nat.zero_le _) (unf_chain s _ 0) (Nat.zero_le _)
  · rw [frq_long (by omega)]
    exact Nat.zero_le _
theorem rjP_le (n : Int) (s : ByteArray) : rjP n s ≤ s.size := by
  unfold rjP
  split
  · exact rdJ_le s
  · exact Nat.zero_le _
theorem ownsA_one1 (w : World) (B : Nat) (x : Ac) (hb : B ≤ w.heap.size) :
    ownsR (w.alloc (.cells #[.int .i64 x.kind, .string x.name, .string x.text, .string x.to] 57)) B 57 (.slice (some ⟨w.heap.size, 0, none⟩) 1 1) [x] :=
  ⟨rfl, .inr ⟨w.heap.size, 1, _, rfl, hb, heap_alloc_new w _, Nat.le_refl 1, by decide, rfl, rfl⟩⟩
def oneA (nm : ByteArray) : List Ac := [⟨4, nm, ByteArray.empty, ByteArray.empty⟩]
/-- A row of one act that was just built. -/
theorem reads_actJ {w : World} {g c : Nat} {nm : ByteArray} (h : w.heap[g]? = some (.cells #[.int .i64 4, .string nm, .string ByteArray.empty, .string ByteArray.empty] 57)) : Reads w (.slice (some ⟨g, 0, none⟩) 1 c) (oneA nm) := by
  refine ⟨some ⟨g, 0, none⟩, c, rfl, fun _ => ⟨g, 0, rfl, (Array.getElem?_eq_some_iff.1 h).1, fun i y hy j u hu => ?_⟩⟩
  match i, hy with
  | 0, hy =>
    have e : (⟨4, nm, ByteArray.empty, ByteArray.empty⟩ : Ac) = y := by simpa [oneA] using hy
    subst e
    match j, hu with
    | 0, hu => have e : Value.int .i64 4 = u := by simpa [Rec.cells] using hu
               subst e; simp [World.cell?, h]
    | 1, hu => have e : Value.string nm = u := by simpa [Rec.cells] using hu
               subst e; simp [World.cell?, h]
    | 2, hu => have e : Value.string ByteArray.empty = u := by simpa [Rec.cells] using hu
               subst e; simp [World.cell?, h]
    | 3, hu => have e : Value.string ByteArray.empty = u := by simpa [Rec.cells] using hu
               subst e; simp [World.cell?, h]
theorem d_cell {w w' : World} {g : Nat} {a : Value} {t : TypeId} (h : w.heap[g]? = some (.cells #[a] t)) (hb : Below w.heap.size w w') : w'.cell? ⟨g, 0, none⟩ = some a := by
  have h2 : w'.heap[g]? = some (.cells #[a] t) := (hb.block _ (Array.getElem?_eq_some_iff.1 h).1).trans h
  simp [World.cell?, h2]
theorem op_zero {l : List Fl} {w W : World} {a : Value} (hB : opB l = false) (hb : Below w.heap.size w W) (Z : B6 W (w.heap.size + 1) (.int .i64 0) (.int .i64 0) (.int .i64 0) (.int .i64 0) (.int .i64 0) (.slice none 0 0)) (ho : ownsR W w.heap.size 57 a ([] : List Ac)) :
    OpP l w (.returned (.tuple #[jV 0 0 0 0 0 (.slice none 0 0), a, .bool false])) (set6 W (w.heap.size + 1) (.int .i64 0) (.int .i64 0) (.int .i64 0) (.int .i64 0) (.int .i64 0) (.slice none 0 0)) := by
  unfold OpP opRN opRJ opRA
  rw [hB]
  exact ⟨_, _, rfl, ownsR_nil _ _ _, ownsR_set6 ho (not_row6a Z ho) _ _ _ _ _ _, below_set6 hb (Nat.le_succ _) _ _ _ _ _ _⟩
/-- The drops of journals that are gone through so far. -/
def dropsJ (m : Int) (l : List Fl) : List Ac := (l.filter (dropJ m)).map fun f => ⟨4, f.name, ByteArray.empty, ByteArray.empty⟩
theorem dropsJ_yes {m : Int} {l : List Fl} {k : Nat} {f : Fl} (h : l[k]? = some f) (hd : dropJ m f = true) : dropsJ m (l.take (k + 1)) = dropsJ m (l.take k) ++ [⟨4, f.name, ByteArray.empty, ByteArray.empty⟩] := by
  unfold dropsJ
  rw [List.take_add_one, h]
  simp [List.filter_append, hd]
theorem dropsJ_no {m : Int} {l : List Fl} {k : Nat} {f : Fl} (h : l[k]? = some f) (hd : dropJ m f = false) : dropsJ m (l.take (k + 1)) = dropsJ m (l.take k) := by
  unfold dropsJ
  rw [List.take_add_one, h]
  simp [List.filter_append, hd]
theorem dropsJ_length (m : Int) (l : List Fl) : (dropsJ m l).length ≤ l.length := by
  unfold dropsJ
  rw [List.length_map]
  exact List.length_filter_le _ _
def newD (l : List Fl) : List Ac := if (findF l nameNew).isSome then [⟨4, nameNew, ByteArray.empty, ByteArray.empty⟩] else []
theorem dropsOf_two {l : List Fl} (m : Int) (hd : diskR l = true) : dropsOf m l = newD l ++ dropsJ m l := drops_split m (fun d i f g hf hg => names_rise hd d i f g hf hg)
theorem dropJ_cases {m x : Int} {f : Fl} (hx : numOf f.name = x) : (dropJ m f = true ∧ 0 ≤ x ∧ x ≠ m) ∨ (dropJ m f = false ∧ ¬ 0 ≤ x) ∨ (dropJ m f = false ∧ 0 ≤ x ∧ x = m) := by
  unfold dropJ
  rw [hx]
  by_cases h0 : 0 ≤ x
  · by_cases hm : x = m
    · exact .inr (.inr ⟨by simp [hm], h0, hm⟩)
    · exact .inl ⟨by simp [h0, hm], h0, hm⟩
  · exact .inr (.inl ⟨by simp [h0], h0⟩)

set_option maxRecDepth 10000 in
set_option maxHeartbeats 2000000 in
theorem specOpen_wrong (ao : Option Addr) (n c : Nat) (l : List Fl) (w : World) (hr : Reads w (.slice ao n c) l) (hd : diskR l = false) (hn : n ≤ 9223372036854775807) :
    Calls Tryz.prog 5 #[.agg #[.slice ao n c]] w (OpP l w) := by
  have CD : Hid (∀ W, Below w.heap.size w W → Calls Tryz.prog 17 #[.agg #[.slice ao n c]] W fun e w' => e = .returned (.bool false) ∧ Below W.heap.size W w') := fun W hb => by
    have := specDiskOk_any (hr.below hb)
    rwa [hd] at this
  have HB : Hid (opB l = false) := by show _ = _; unfold opB; rw [hd]; rfl
  clear hr hd
  go_enter Tryz.func5, Tryz.ntmps5
  go_wp2
  have D0 := heap_old (heap_old (heap_last w (.cells #[.slice ao n c] 36)) (.cells #[.int .i64 0, .int .i64 0, .int .i64 0, .int .i64 0, .int .i64 0, .slice none 0 0] 30)) (.cells #[] 57)
  have Z0 : B6 (((w.alloc (.cells #[.slice ao n c] 36)).alloc (.cells #[.int .i64 0, .int .i64 0, .int .i64 0, .int .i64 0, .int .i64 0, .slice none 0 0] 30)).alloc (.cells #[] 57)) (w.heap.size + 1) (.int .i64 0) (.int .i64 0) (.int .i64 0) (.int .i64 0) (.int .i64 0) (.slice none 0 0) := by
    have := (B6.new (w.alloc (.cells #[.slice ao n c] 36)) (.int .i64 0) (.int .i64 0) (.int .i64 0) (.int .i64 0) (.int .i64 0) (.slice none 0 0)).alloc (.cells #[] 57)
    simpa using this
  have B0 : Below w.heap.size w (((w.alloc (.cells #[.slice ao n c] 36)).alloc (.cells #[.int .i64 0, .int .i64 0, .int .i64 0, .int .i64 0, .int .i64 0, .slice none 0 0] 30)).alloc (.cells #[] 57)) := ba (ba (ba (Below.refl _ _) _) _) _
  have O0 : ownsR (((w.alloc (.cells #[.slice ao n c] 36)).alloc (.cells #[.int .i64 0, .int .i64 0, .int .i64 0, .int .i64 0, .int .i64 0, .slice none 0 0] 30)).alloc (.cells #[] 57)) w.heap.size 57 (.slice (some ⟨w.heap.size + 1 + 1, 0, none⟩) 0 0) ([] : List Ac) := by
    have := ownsA_made ((w.alloc (.cells #[.slice ao n c] 36)).alloc (.cells #[.int .i64 0, .int .i64 0, .int .i64 0, .int .i64 0, .int .i64 0, .slice none 0 0] 30)) w.heap.size 0 #[] (by simp; omega) (by decide) rfl
    simpa using this
  generalize ((w.alloc (.cells #[.slice ao n c] 36)).alloc (.cells #[.int .i64 0, .int .i64 0, .int .i64 0, .int .i64 0, .int .i64 0, .slice none 0 0] 30)).alloc (.cells #[] 57) = W at D0 Z0 B0 O0 ⊢
  have d0 := d_cell D0 (Below.refl _ _)
  refine wp_loop_rounds 1 ?_
  rw [rounds_succ]
  by_cases hn0 : n = 0
  · subst hn0
    have z0 := Z0.c0
    have z1 := Z0.c1
    have z2 := Z0.c2
    have z3 := Z0.c3
    have z4 := Z0.c4
    have z5 := Z0.c5
    have zf := Z0.fr
    go_wp2
    exact bodyPost_ret (ret_j3 rfl rfl rfl rfl (Z0.set (.int .i64 0) (.int .i64 0) (.int .i64 0) (.int .i64 0) (.int .i64 0) (.slice none 0 0))) rfl (op_zero HB.out B0 Z0 O0)
  · have hpos : 0 < n := by omega
    have hposi : (0 : Int) < (n : Int) := by omega
    go_wp2_with fail
    refine Calls.mono (CD.out _ B0) ?_
    rintro e w1 ⟨rfl, hb1⟩
    have Z1 := Z0.up hb1
    have B1 := Below.on B0 hb1
    have O1 := O0.all hb1
    clear Z0 B0 O0 D0 d0 hb1
    have z0 := Z1.c0
    have z1 := Z1.c1
    have z2 := Z1.c2
    have z3 := Z1.c3
    have z4 := Z1.c4
    have z5 := Z1.c5
    have zf := Z1.fr
    go_wp2
    exact bodyPost_ret (ret_j3 rfl rfl rfl rfl (Z1.set (.int .i64 0) (.int .i64 0) (.int .i64 0) (.int .i64 0) (.int .i64 0) (.slice none 0 0))) rfl (op_zero HB.out B1 Z1 O1)
end Go.Proofs.YtgpojfkdcdgloaaGreatDoor

namespace Go.Proofs.YtgpojfkdcdgloaaGreatDoor
open Go Go.RowKit

/-- What lies there behind the reading: the disk, the result's box, the journal's box and its entries. -/
structure OpS (w w' : World) (g : Nat) (dv x0 x1 x2 x3 x4 x5 : Value) (L : List En) : Prop where
  b : Below w.heap.size w w'
  d : w'.heap[w.heap.size]? = some (.cells #[dv] 36)
  z : B6 w' (w.heap.size + 1) (.int .i64 0) (.int .i64 0) (.int .i64 0) (.int .i64 0) (.int .i64 0) (.slice none 0 0)
  j : B6 w' g x0 x1 x2 x3 x4 x5
  e : ownsR w' w.heap.size 110 x5 L
theorem OpS.up {w w1 w2 : World} {g : Nat} {dv x0 x1 x2 x3 x4 x5 : Value} {L : List En} (h : OpS w w1 g dv x0 x1 x2 x3 x4 x5 L) (hb : Below w1.heap.size w1 w2) : OpS w w2 g dv x0 x1 x2 x3 x4 x5 L :=
  ⟨Below.on h.b hb, (hb.block _ (Array.getElem?_eq_some_iff.1 h.d).1).trans h.d, h.z.up hb, h.j.up hb, h.e.all hb⟩
theorem OpS.row {w w1 w2 : World} {g : Nat} {dv x0 x1 x2 x3 x4 x5 a : Value} {L : List En} {A : List Ac} (h : OpS w w1 g dv x0 x1 x2 x3 x4 x5 L) (ho : ownsR w1 w.heap.size 57 a A) (hd : some w.heap.size ≠ a.ownBlock) (hg : w1.grownBy w2 a.ownBlock) : OpS w w2 g dv x0 x1 x2 x3 x4 x5 L :=
  ⟨h.b.grown hg h.b.size (fun k hk => (ho.lt k hk).1), (hg.block _ (Array.getElem?_eq_some_iff.1 h.d).1 hd).trans h.d, h.z.grown hg (not_row6a h.z ho), h.j.grown hg (not_row6a h.j ho), ownsR.other h.e hg (rows_apart h.e ho)⟩
theorem not_disk {w : World} {B b : Nat} {v dv : Value} {l : List Ac} (h : w.heap[b]? = some (.cells #[dv] 36)) (ho : ownsR w B 57 v l) : some b ≠ v.ownBlock := by
  intro he
  obtain ⟨_, h2⟩ := ho
  rcases h2 with ⟨rfl, _⟩ | ⟨g', cap, cur, rfl, _, hg, _⟩
  · simp [Value.ownBlock] at he
  · simp only [Value.ownBlock, Option.some.injEq] at he
    subst he
    rw [h] at hg
    simp only [Option.some.injEq, Obj.cells.injEq] at hg
    exact absurd hg.2.1 (by decide)
theorem OpS.rowA {w w1 w2 : World} {g : Nat} {dv x0 x1 x2 x3 x4 x5 a : Value} {L : List En} {A : List Ac} {o : Obj} (h : OpS w w1 g dv x0 x1 x2 x3 x4 x5 L) (ho : ownsR w1 w.heap.size 57 a A) (hg : (w1.alloc o).grownBy w2 a.ownBlock) : OpS w w2 g dv x0 x1 x2 x3 x4 x5 L :=
  (h.up (ba (Below.refl _ _) o)).row (ho.alloc o) (not_disk (h.up (ba (Below.refl _ _) o)).d (ho.alloc o)) hg
theorem op_yes {l : List Fl} {w W : World} {n1 t1 v1 s1 u1 : Int} {x a : Value} {L : List En} {A : List Ac} (hB : opB l = true) (hf : opN l = n1 ∧ (opJ l).t = t1 ∧ (opJ l).v = v1 ∧ (opJ l).s = s1 ∧ (opJ l).st = u1 ∧ (opJ l).l = L ∧ opA l = A) (hx : ownsR W w.heap.size 110 x L) (ha : ownsR W w.heap.size 57 a A) (hb : Below w.heap.size w W) : OpP l w (.returned (.tuple #[jV n1 t1 v1 s1 u1 x, a, .bool true])) W := by
  obtain ⟨rfl, rfl, rfl, rfl, rfl, rfl, rfl⟩ := hf
  unfold OpP opRN opRJ opRA
  rw [hB]
  exact ⟨_, _, rfl, hx, ha, hb⟩
theorem OpS.cd {w w' : World} {g : Nat} {dv x0 x1 x2 x3 x4 x5 : Value} {L : List En} (h : OpS w w' g dv x0 x1 x2 x3 x4 x5 L) : w'.cell? ⟨w.heap.size, 0, none⟩ = some dv := d_cell h.d (Below.refl _ _)

set_option maxRecDepth 10000 in
set_option maxHeartbeats 4000000 in
theorem specOpen_right (ao : Option Addr) (n c : Nat) (l : List Fl) (w : World) (hr : Reads w (.slice ao n c) l) (hd : diskR l = true) :
    Calls Tryz.prog 5 #[.agg #[.slice ao n c]] w (OpP l w) := by
  obtain ⟨m, HM⟩ : ∃ m, Hid (newN l = m) := ⟨_, rfl⟩
  obtain ⟨tx, HTX⟩ : ∃ x, Hid (opT l = x) := ⟨_, rfl⟩
  have HS : Hid (tx.size ≤ 20000) := by show _ ≤ _; rw [← HTX.out]; exact file_small hd _
  have HL : Hid (l.length ≤ 30) := disk_len hd
  have HN : Hid (n = l.length) := hr.len
  have hn : n ≤ 30 := by rw [hr.len]; exact disk_len hd
  have HR : Hid (Reads w (.slice ao n c) l) := hr
  have HNM : Hid (NamesL l) := names_right hd
  have HDR : Hid (dropsOf m l = newD l ++ dropsJ m l) := dropsOf_two m hd
  have CD : Hid (∀ W, Below w.heap.size w W → Calls Tryz.prog 17 #[.agg #[.slice ao n c]] W fun e w' => e = .returned (.bool true) ∧ Below W.heap.size W w') := fun W hb => by
    have := specDiskOk_any (hr.below hb)
    rwa [hd] at this
  have HD : Hid (diskR l = true) := hd
  clear hr hd
  go_enter Tryz.func5, Tryz.ntmps5
  go_wp2
  have D0 : Hid ((((w.alloc (.cells #[.slice ao n c] 36)).alloc (.cells #[.int .i64 0, .int .i64 0, .int .i64 0, .int .i64 0, .int .i64 0, .slice none 0 0] 30)).alloc (.cells #[] 57)).heap[w.heap.size]? = some (.cells #[.slice ao n c] 36)) := heap_old (heap_old (heap_last w (.cells #[.slice ao n c] 36)) (.cells #[.int .i64 0, .int .i64 0, .int .i64 0, .int .i64 0, .int .i64 0, .slice none 0 0] 30)) (.cells #[] 57)
  have Z0 : Hid (B6 (((w.alloc (.cells #[.slice ao n c] 36)).alloc (.cells #[.int .i64 0, .int .i64 0, .int .i64 0, .int .i64 0, .int .i64 0, .slice none 0 0] 30)).alloc (.cells #[] 57)) (w.heap.size + 1) (.int .i64 0) (.int .i64 0) (.int .i64 0) (.int .i64 0) (.int .i64 0) (.slice none 0 0)) := by
    have := (B6.new (w.alloc (.cells #[.slice ao n c] 36)) (.int .i64 0) (.int .i64 0) (.int .i64 0) (.int .i64 0) (.int .i64 0) (.slice none 0 0)).alloc (.cells #[] 57)
    show B6 _ _ _ _ _ _ _ _
    simpa using this
  have B0 : Hid (Below w.heap.size w (((w.alloc (.cells #[.slice ao n c] 36)).alloc (.cells #[.int .i64 0, .int .i64 0, .int .i64 0, .int .i64 0, .int .i64 0, .slice none 0 0] 30)).alloc (.cells #[] 57))) := ba (ba (ba (Below.refl _ _) _) _) _
  have O0 : Hid (ownsR (((w.alloc (.cells #[.slice ao n c] 36)).alloc (.cells #[.int .i64 0, .int .i64 0, .int .i64 0, .int .i64 0, .int .i64 0, .slice none 0 0] 30)).alloc (.cells #[] 57)) w.heap.size 57 (.slice (some ⟨w.heap.size + 1 + 1, 0, none⟩) 0 0) ([] : List Ac)) := by
    have := ownsA_made ((w.alloc (.cells #[.slice ao n c] 36)).alloc (.cells #[.int .i64 0, .int .i64 0, .int .i64 0, .int .i64 0, .int .i64 0, .slice none 0 0] 30)) w.heap.size 0 #[] (by simp; omega) (by decide) rfl
    show ownsR _ _ _ _ _
    simpa using this
  generalize ((w.alloc (.cells #[.slice ao n c] 36)).alloc (.cells #[.int .i64 0, .int .i64 0, .int .i64 0, .int .i64 0, .int .i64 0, .slice none 0 0] 30)).alloc (.cells #[] 57) = W at D0 Z0 B0 O0 ⊢
  go_loopw [6, 7] (fun b i wr => ∃ k : Nat, k ≤ n ∧ i = .int .i64 k ∧ (∃ x : Int, b = .int .i64 x ∧ Hid (x = newN (l.take k))) ∧ Below W.heap.size W wr) (fun _ i _ => n - (intOf i).toNat)
  case atStart => exact ⟨0, Nat.zero_le _, rfl, ⟨_, rfl, rfl⟩, Below.refl _ _⟩
  case round =>
    obtain ⟨k, hk, rfl, ⟨x, rfl, HX⟩, hbel⟩ := hrel
    have d0 := d_cell D0.out hbel
    by_cases hlt : k < n
    · obtain ⟨⟨nm, tx', kp⟩, hf⟩ : ∃ f, l[k]? = some f := ⟨_, List.getElem?_eq_getElem (by rw [← HN.out]; exact hlt)⟩
      have HF : Hid (l[k]? = some ⟨nm, tx', kp⟩) := hf
      have hts : Hid (nm.size ≤ 9223372036854775807) := Nat.le_trans (HNM.out _ (List.mem_of_getElem? hf)) (by decide)
      obtain ⟨y, HY⟩ : ∃ y, Hid (numOf nm = y) := ⟨_, rfl⟩
      have CN : Hid (∀ W, Calls Tryz.prog 18 #[.string nm] W fun e w' => e = .returned (.int .i64 y) ∧ Below W.heap.size W w') := fun W => by rw [← HY.out]; exact specNumber_any nm W hts.out
      have HNX : Hid (newN (l.take (k + 1)) = max x y) := by show _ = _; rw [newN_take HF.out, ← HX.out, ← HY.out]
      clear hf
      go_wp2_with fail
      refine Calls.mono (CD.out _ (B0.out.trans (hbel.mono B0.out.size))) ?_
      rintro e w1 ⟨rfl, hb1⟩
      replace hbel := Below.on hbel hb1
      clear d0 hb1
      have d0 := d_cell D0.out hbel
      obtain ⟨b, o, rfl, hb, c0, c1, c2⟩ := fl_at (HR.out.below (B0.out.trans (hbel.mono B0.out.size))) HF.out
      dsimp only at c0 c1 c2
      go_wp2_with fail
      refine Calls.mono (CN.out _) ?_
      rintro e w2 ⟨rfl, hb2⟩
      replace hbel := Below.on hbel hb2
      have hk1 : k + 1 ≤ n := by omega
      clear d0 c0 c1 c2 hb hb2 CN
      by_cases hgt : x < y
      · have HE : Hid (y = newN (l.take (k + 1))) := by show y = _; rw [HNX.out]; omega
        go_wp2
        go_roundw
        case rel => exact ⟨k + 1, hk1, by go_num, ⟨y, rfl, HE⟩, hbel⟩
        case measure => simp [intOf]; omega
      · have HE : Hid (x = newN (l.take (k + 1))) := by show x = _; rw [HNX.out]; omega
        go_wp2
        go_roundw
        case rel => exact ⟨k + 1, hk1, by go_num, ⟨x, rfl, HE⟩, hbel⟩
        case measure => simp [intOf]; omega
    · have hkn : k = n := by omega
      subst hkn
      have HK : x = m := by rw [HX.out, ← HM.out, HN.out, List.take_length]
      subst HK
      clear HX
      have B1 : Hid (Below w.heap.size w wr) := B0.out.trans (hbel.mono B0.out.size)
      have Z1 : Hid (B6 wr (w.heap.size + 1) (.int .i64 0) (.int .i64 0) (.int .i64 0) (.int .i64 0) (.int .i64 0) (.slice none 0 0)) := Z0.out.up hbel
      have O1 : Hid (ownsR wr w.heap.size 57 (.slice (some ⟨w.heap.size + 1 + 1, 0, none⟩) 0 0) ([] : List Ac)) := O0.out.all hbel
      have D1 : Hid (wr.heap[w.heap.size]? = some (.cells #[.slice ao k c] 36)) := (hbel.block _ (Array.getElem?_eq_some_iff.1 D0.out).1).trans D0.out
      clear hbel B0 Z0 O0 D0 d0 hk hlt CD
      by_cases hneg : x < 0
      · have HB : Hid (opB l = false) := by
          show _ = _
          unfold opB rjB
          rw [HM.out, numB_no (.inl hneg)]
          simp
        have z0 := Z1.out.c0
        have z1 := Z1.out.c1
        have z2 := Z1.out.c2
        have z3 := Z1.out.c3
        have z4 := Z1.out.c4
        have z5 := Z1.out.c5
        have zf := Z1.out.fr
        have d1 := d_cell D1.out (Below.refl _ _)
        go_wp2
        refine bodyPost_ret (ret_j3 rfl rfl rfl rfl (Z1.out.set (.int .i64 0) (.int .i64 0) (.int .i64 0) (.int .i64 0) (.int .i64 0) (.slice none 0 0))) rfl ?_
        exact op_zero HB.out B1.out Z1.out O1.out
      · obtain ⟨nx, HNXX⟩ : ∃ q, Hid (jname x = q) := ⟨_, rfl⟩
        obtain ⟨z, HZ⟩ : ∃ z, Hid ((fileR l nx).2 = z) := ⟨_, rfl⟩
        obtain ⟨jn, H1⟩ : ∃ q, Hid (rjN x tx = q) := ⟨_, rfl⟩
        obtain ⟨jt, H2⟩ : ∃ q, Hid ((rjJ x tx).t = q) := ⟨_, rfl⟩
        obtain ⟨jv, H3⟩ : ∃ q, Hid ((rjJ x tx).v = q) := ⟨_, rfl⟩
        obtain ⟨js, H4⟩ : ∃ q, Hid ((rjJ x tx).s = q) := ⟨_, rfl⟩
        obtain ⟨ju, H5⟩ : ∃ q, Hid ((rjJ x tx).st = q) := ⟨_, rfl⟩
        obtain ⟨jp, H6⟩ : ∃ q, Hid (rjP x tx = q) := ⟨_, rfl⟩
        obtain ⟨L, H7⟩ : ∃ q, Hid ((rjJ x tx).l = q) := ⟨_, rfl⟩
        obtain ⟨rq, HRB⟩ : ∃ q, Hid (rjB x tx = q) := ⟨_, rfl⟩
        have HLL : Hid (L.length ≤ 60 ∧ SizedE L) := by show _ ∧ _; rw [← H7.out]; exact ⟨rjJ_len x tx, rjJ_sized x tx⟩
        have HJP : Hid (jp ≤ tx.size) := by show _ ≤ _; rw [← H6.out]; exact rjP_le x tx
        have CJ : Hid (∀ W, Calls Tryz.prog 20 #[.int .i64 x] W fun e w' => e = .returned (.string nx) ∧ Below W.heap.size W w') := fun W => by rw [← HNXX.out]; exact specJournalName_any x W
        have CF : Hid (∀ W, Below w.heap.size w W → Calls Tryz.prog 19 #[.agg #[.slice ao k c], .string nx] W fun e w' => e = .returned (.tuple #[.string tx, .bool z]) ∧ Below W.heap.size W w') := fun W hb => by
          have := specFileAt_any nx (HR.out.below hb) (by have := HL.out; omega)
          rw [show (fileR l nx).1 = tx by rw [← HTX.out]; unfold opT; rw [HM.out, HNXX.out], HZ.out] at this
          exact this
        have CR : Hid (∀ W, Calls Tryz.prog 21 #[.int .i64 x, .string tx] W fun e w' => ∃ a k c, e = .returned (.tuple #[jV jn jt jv js ju (.slice a k c), .int .i64 (jp : Int), .bool rq]) ∧ ownsR w' W.heap.size 110 (.slice a k c) L ∧ Below W.heap.size W w') := fun W => by
          have := specReadJournal_any x tx W (by have := HS.out; omega)
          unfold RjP at this
          rw [H1.out, H2.out, H3.out, H4.out, H5.out, H6.out, H7.out, HRB.out] at this
          exact this
        have CF2 : Hid (∀ y : Wd wr, Calls Tryz.prog 19 #[.agg #[.slice ao k c], .string nx] y.at' fun e w' => e = .returned (.tuple #[.string tx, .bool z]) ∧ Below y.at'.heap.size y.at' w') := fun y => CF.out _ (Below.on B1.out y.ok)
        have d1 := d_cell D1.out (Below.refl _ _)
        have q1 := Wd.cell d1
        go_wp2
        refine wp_region_wd (by kernel_rfl) (by kernel_rfl) ?_
        repeat (go_big_quiet_step ((first | (go_at_call 20; refine calls_wd (v := .string nx) ?_; exact CJ.out _) | (go_at_call 19; refine calls_wd (v := .tuple #[.string tx, .bool z]) ?_; exact CF2.out _))))
        refine wpQuiet_nil ?_
        rintro _ ⟨vy, rfl⟩
        have B2 : Hid (Below w.heap.size w vy.at') := Below.on B1.out vy.ok
        have Z2 : Hid (B6 vy.at' (w.heap.size + 1) (.int .i64 0) (.int .i64 0) (.int .i64 0) (.int .i64 0) (.int .i64 0) (.slice none 0 0)) := Z1.out.up vy.ok
        have O2 : Hid (ownsR vy.at' w.heap.size 57 (.slice (some ⟨w.heap.size + 1 + 1, 0, none⟩) 0 0) ([] : List Ac)) := O1.out.all vy.ok
        have D2 : Hid (vy.at'.heap[w.heap.size]? = some (.cells #[.slice ao k c] 36)) := (vy.ok.block _ (Array.getElem?_eq_some_iff.1 D1.out).1).trans D1.out
        generalize vy.at' = w2 at B2 Z2 O2 D2 ⊢
        clear B1 Z1 O1 D1 d1 q1 CF CF2 CJ HZ
        go_wp2_with fail
        refine Calls.mono (CR.out _) ?_
        rintro e w3 ⟨ja, jk, jc, rfl, ho3, hb3⟩
        have S3 : Hid (OpS w (w3.alloc (.cells #[.int .i64 jn, .int .i64 jt, .int .i64 jv, .int .i64 js, .int .i64 ju, .slice ja jk jc] 30)) w3.heap.size (.slice ao k c) (.int .i64 jn) (.int .i64 jt) (.int .i64 jv) (.int .i64 js) (.int .i64 ju) (.slice ja jk jc) L) :=
          ⟨ba (Below.on B2.out hb3) _, heap_old ((hb3.block _ (Array.getElem?_eq_some_iff.1 D2.out).1).trans D2.out) _, (Z2.out.up hb3).alloc _, B6.new _ _ _ _ _ _ _, (ho3.mono B2.out.size).alloc _⟩
        have O3 : Hid (ownsR (w3.alloc (.cells #[.int .i64 jn, .int .i64 jt, .int .i64 jv, .int .i64 js, .int .i64 ju, .slice ja jk jc] 30)) w.heap.size 57 (.slice (some ⟨w.heap.size + 1 + 1, 0, none⟩) 0 0) ([] : List Ac)) := (O2.out.all hb3).alloc _
        obtain ⟨WX, hWX⟩ : ∃ WX, w3.alloc (.cells #[.int .i64 jn, .int .i64 jt, .int .i64 jv, .int .i64 js, .int .i64 ju, .slice ja jk jc] 30) = WX := ⟨_, rfl⟩
        rw [hWX] at S3 O3
        obtain ⟨g, hg⟩ : ∃ g, w3.heap.size = g := ⟨_, rfl⟩
        rw [hg] at S3
        clear B2 Z2 O2 D2 ho3 hb3 CR
        cases rq with
        | false =>
          have HB : Hid (opB l = false) := by
            show _ = _
            unfold opB
            rw [HM.out, HTX.out, HRB.out]
            simp
          have z0 := S3.out.z.c0
          have z1 := S3.out.z.c1
          have z2 := S3.out.z.c2
          have z3 := S3.out.z.c3
          have z4 := S3.out.z.c4
          have z5 := S3.out.z.c5
          have zf := S3.out.z.fr
          go_wp2
          refine bodyPost_ret (ret_j3 rfl rfl rfl rfl (S3.out.z.set (.int .i64 0) (.int .i64 0) (.int .i64 0) (.int .i64 0) (.int .i64 0) (.slice none 0 0))) rfl ?_
          exact op_zero HB.out S3.out.b S3.out.z O3.out
        | true =>
          have hjn : jn = x := by rw [← H1.out]; unfold rjN; rw [HRB.out]; rfl
          subst hjn
          have hx9 : jn ≤ 999 := by
            have := HRB.out
            unfold rjB at this
            rw [Bool.and_eq_true] at this
            exact (numB_out this.1).2
          have d3 := S3.out.cd
          have CAT : Hid (Calls Tryz.prog 22 #[.agg #[.slice ao k c], .string nameNew] WX fun e w' => ∃ r : Int, e = .returned (.int .i64 r) ∧ (r = -1 ∧ findF l nameNew = none ∨ ∃ (k : Nat) (f : Fl), r = (k : Int) ∧ l[k]? = some f ∧ findF l nameNew = some f) ∧ Below WX.heap.size WX w') := specAt_try ao k c l nameNew WX (HR.out.below S3.out.b) (by omega)
          go_wp2_with fail
          refine Calls.mono CAT.out ?_
          rintro e w4 ⟨r, rfl, hrr, hb4⟩
          have S4 := S3.out.up hb4
          have O4 := O3.out.all hb4
          clear S3 O3 d3 hb4 hWX hg CAT
          rcases hrr with ⟨rfl, hnone⟩ | ⟨kk, ff, rfl, _, hsome⟩
          · have HND : Hid (newD l = []) := by show _ = _; unfold newD; rw [hnone]; rfl
            have S5 : Hid (OpS w w4 g (.slice ao k c) (.int .i64 jn) (.int .i64 jt) (.int .i64 jv) (.int .i64 js) (.int .i64 ju) (.slice ja jk jc) L) := S4
            have O5 : Hid (ownsR w4 w.heap.size 57 (.slice (some ⟨w.heap.size + 1 + 1, 0, none⟩) 0 0) (newD l ++ dropsJ jn (l.take 0))) := by show ownsR _ _ _ _ _; rw [HND.out]; exact O4
            clear S4 O4 hnone
            go_wp2
            go_loopw [5, 14] (fun out i wr => ∃ j : Nat, j ≤ k ∧ i = .int .i64 j ∧ ownsR wr w.heap.size 57 out (newD l ++ dropsJ jn (l.take j)) ∧ OpS w wr g (.slice ao k c) (.int .i64 jn) (.int .i64 jt) (.int .i64 jv) (.int .i64 js) (.int .i64 ju) (.slice ja jk jc) L) (fun _ i _ => k - (intOf i).toNat)
            case atStart => exact ⟨0, Nat.zero_le _, rfl, O5.out, S5.out⟩
            case round =>
              obtain ⟨j, hj, rfl, hown, SS⟩ := hrel
              have HSS : Hid (OpS w wr g (.slice ao k c) (.int .i64 jn) (.int .i64 jt) (.int .i64 jv) (.int .i64 js) (.int .i64 ju) (.slice ja jk jc) L) := SS
              obtain ⟨oa, on, oc, rfl⟩ := hown.slice3
              obtain ⟨LJ, ELJ⟩ : ∃ q, Hid (newD l ++ dropsJ jn (l.take j) = q) := ⟨_, rfl⟩
              rw [ELJ.out] at hown
              have d5 := SS.cd
              clear SS S5 O5
              by_cases hlt : j < k
              · obtain ⟨⟨nm, tx', kp⟩, hf⟩ : ∃ f, l[j]? = some f := ⟨_, List.getElem?_eq_getElem (by rw [← HN.out]; exact hlt)⟩
                have HF : Hid (l[j]? = some ⟨nm, tx', kp⟩) := hf
                obtain ⟨b, o, rfl, hb, c0, c1, c2⟩ := fl_at (HR.out.below HSS.out.b) hf
                have hts : Hid (nm.size ≤ 9223372036854775807) := Nat.le_trans (HNM.out _ (List.mem_of_getElem? hf)) (by decide)
                obtain ⟨y, HY⟩ : ∃ y, Hid (numOf nm = y) := ⟨_, rfl⟩
                have CN : Hid (∀ W, Calls Tryz.prog 18 #[.string nm] W fun e w' => e = .returned (.int .i64 y) ∧ Below W.heap.size W w') := fun W => by rw [← HY.out]; exact specNumber_any nm W hts.out
                have hl1 : LJ.length + (oneA nm).length ≤ 1048577 := by
                  rw [← ELJ.out, List.length_append]
                  have h1 := dropsJ_length jn (l.take j)
                  have h2 : (newD l).length ≤ 1 := by unfold newD; split <;> simp
                  have h3 : (oneA nm).length = 1 := rfl
                  have h4 : (l.take j).length ≤ j := by simp; omega
                  omega
                have hj1 : j + 1 ≤ k := by omega
                clear hf
                dsimp only at c0 c1 c2
                go_wp2_with fail
                refine Calls.mono (CN.out _) ?_
                rintro e w6 ⟨rfl, hb6⟩
                have S6 := HSS.out.up hb6
                have ho6 := hown.all hb6
                have hb' : b < w6.heap.size := Nat.lt_of_lt_of_le hb hb6.size
                replace c0 := cell_up hb6 c0
                clear hown d5 c1 c2 hb6 CN hb HSS
                have d6 := S6.cd
                rcases dropJ_cases (m := jn) (f := ⟨nm, tx', kp⟩) HY.out with ⟨hdd, hx0, hxm⟩ | ⟨hdd, hx0⟩ | ⟨hdd, hx0, hxm⟩
                · have HT : Hid (newD l ++ dropsJ jn (l.take (j + 1)) = LJ ++ oneA nm) := by show _ = _; rw [dropsJ_yes HF.out hdd, ← List.append_assoc, ELJ.out]; rfl
                  clear hdd
                  go_wp2_with (at_builtin; refine wpList_append_recs rfl (.tmp 92) (.tmp 100) 31 rfl w.heap.size 57 _ 56 underAc infoAc rfl (.slice oa on oc) (.slice (some ⟨w6.heap.size, 0, none⟩) 1 1) LJ (oneA nm) (by rfl) (by rfl) (ho6.alloc _) (reads_actJ (heap_last _ _)) (ac_ones _) hl1 (by decide) (ba S6.b _).size ?_)
                  intro v7 w7 ho7 hg7
                  have S7 : Hid (OpS w w7 g (.slice (some ⟨b, o, none⟩) k c) (.int .i64 jn) (.int .i64 jt) (.int .i64 jv) (.int .i64 js) (.int .i64 ju) (.slice ja jk jc) L) := S6.rowA ho6 hg7
                  rw [← HT.out] at ho7
                  have HO7 : Hid (ownsR w7 w.heap.size 57 v7 (newD l ++ dropsJ jn (l.take (j + 1)))) := ho7
                  clear S6 ho6 d6 hg7 ho7 c0
                  go_wp2
                  go_roundw
                  case rel => exact ⟨j + 1, hj1, by go_num, HO7.out, S7.out⟩
                  case measure => simp [intOf]; omega
                · have HT : Hid (newD l ++ dropsJ jn (l.take (j + 1)) = LJ) := by show _ = _; rw [dropsJ_no HF.out hdd, ELJ.out]
                  rw [← HT.out] at ho6
                  have S7 : Hid (OpS w w6 g (.slice (some ⟨b, o, none⟩) k c) (.int .i64 jn) (.int .i64 jt) (.int .i64 jv) (.int .i64 js) (.int .i64 ju) (.slice ja jk jc) L) := S6
                  have HO7 : Hid (ownsR w6 w.heap.size 57 (.slice oa on oc) (newD l ++ dropsJ jn (l.take (j + 1)))) := ho6
                  clear hdd S6 ho6 d6 c0
                  go_wp2
                  go_roundw
                  case rel => exact ⟨j + 1, hj1, by go_num, HO7.out, S7.out⟩
                  case measure => simp [intOf]; omega
                · have HT : Hid (newD l ++ dropsJ jn (l.take (j + 1)) = LJ) := by show _ = _; rw [dropsJ_no HF.out hdd, ELJ.out]
                  rw [← HT.out] at ho6
                  have S7 : Hid (OpS w w6 g (.slice (some ⟨b, o, none⟩) k c) (.int .i64 jn) (.int .i64 jt) (.int .i64 jv) (.int .i64 js) (.int .i64 ju) (.slice ja jk jc) L) := S6
                  have HO7 : Hid (ownsR w6 w.heap.size 57 (.slice oa on oc) (newD l ++ dropsJ jn (l.take (j + 1)))) := ho6
                  subst hxm
                  clear hdd S6 ho6 d6 c0
                  go_wp2
                  go_roundw
                  case rel => exact ⟨j + 1, hj1, by go_num, HO7.out, S7.out⟩
                  case measure => simp [intOf]; omega
              · have hjk : j = k := by omega
                subst hjk
                have HO : Hid (ownsR wr w.heap.size 57 (.slice oa on oc) (dropsOf jn l)) := by
                  show ownsR _ _ _ _ _
                  rw [HDR.out]
                  have e := ELJ.out
                  rw [HN.out, List.take_length] at e
                  rw [e]
                  exact hown
                clear hown ELJ hlt hj
                have j0 := HSS.out.j.c0
                have j1 := HSS.out.j.c1
                have j2 := HSS.out.j.c2
                have j3 := HSS.out.j.c3
                have j4 := HSS.out.j.c4
                have j5 := HSS.out.j.c5
                by_cases hend : jp = tx.size
                · have HOE : Hid (opE l = true) := by show _ = _; unfold opE; rw [HM.out, HTX.out, H6.out]; exact decide_eq_true (by omega)
                  have HB : Hid (opB l = true) := by show _ = _; unfold opB; rw [HD.out, HM.out, HTX.out, HRB.out, HOE.out]; rfl
                  have HF : Hid (opN l = jn ∧ (opJ l).t = jt ∧ (opJ l).v = jv ∧ (opJ l).s = js ∧ (opJ l).st = ju ∧ (opJ l).l = L ∧ opA l = dropsOf jn l) := by
                    show _ ∧ _
                    unfold opN opA opJ
                    rw [HOE.out, HM.out, HTX.out]
                    exact ⟨rfl, H2.out, H3.out, H4.out, H5.out, H7.out, by simp⟩
                  subst hend
                  have CC : Hid (Calls Tryz.prog 23 #[jV jn jt jv js ju (.slice ja jk jc)] wr fun e w' => ∃ y, e = .returned (jV jn jt jv js ju y) ∧ ownsR w' wr.heap.size 110 y L ∧ Below wr.heap.size wr w') := l07Copy_try jn jt jv js ju ja jk jc L wr HSS.out.e.reads (by have := HLL.out.1; omega)
                  go_wp2_with fail
                  refine Calls.mono CC.out ?_
                  rintro e w8 ⟨y8, rfl, hoy, hby⟩
                  obtain ⟨ya, yk, yc, rfl⟩ := hoy.slice3
                  have S8 := HSS.out.up hby
                  have A8 := HO.out.all hby
                  have X8 := hoy.mono (B' := w.heap.size) HSS.out.b.size
                  clear HSS HO hoy hby CC d5 j0 j1 j2 j3 j4 j5
                  have z0 := S8.z.c0
                  have z1 := S8.z.c1
                  have z2 := S8.z.c2
                  have z3 := S8.z.c3
                  have z4 := S8.z.c4
                  have z5 := S8.z.c5
                  have zf := S8.z.fr
                  go_wp2
                  have F8 := oj_last (u0 := .int .i64 jn) (u1 := .int .i64 jt) (u2 := .int .i64 jv) (u3 := .int .i64 js) (u4 := .int .i64 ju) S8.b S8.z X8 A8
                  refine bodyPost_ret (ret_j3 rfl rfl rfl rfl F8.2.1) rfl ?_
                  exact op_yes HB.out HF.out F8.2.2.1 F8.2.2.2 F8.1
                · have hend2 : ¬ (jp : Int) = (tx.size : Int) := by omega
                  have HOE : Hid (opE l = false) := by show _ = _; unfold opE; rw [HM.out, HTX.out, H6.out]; exact decide_eq_false (by have := HJP.out; omega)
                  have CA : Hid (Calls Tryz.prog 24 #[jV jn jt jv js ju (.slice ja jk jc), jV jn jt jv js ju (.slice ja jk jc)] wr (AnP jn jt jv js ju L wr)) := l07Anew_try jn jt jv js ju ja jk jc L wr HSS.out.e.reads (by have := HLL.out.1; omega) HLL.out.2 hneg hx9
                  go_wp2_with fail
                  refine Calls.mono CA.out ?_
                  rintro e w8 ⟨hb8, hT, hF⟩
                  have S8 := HSS.out.up hb8
                  have A8 := HO.out.all hb8
                  have hB8 := HSS.out.b.size
                  clear HSS HO hb8 CA d5 j0 j1 j2 j3 j4 j5
                  cases hq : jtB (jn + 1) jt jv js ju L with
                  | false =>
                    obtain ⟨a8, rfl, ho8⟩ := hF hq
                    obtain ⟨aa, ak, ac, rfl⟩ := ho8.slice3
                    have HB : Hid (opB l = false) := by
                      show _ = _
                      unfold opB opJ
                      rw [HOE.out, HM.out, HTX.out, H2.out, H3.out, H4.out, H5.out, H7.out, hq]
                      simp
                    clear hT hF hq ho8 A8
                    have Z10 := (S8.z.alloc (.cells #[.int .i64 0, .int .i64 0, .int .i64 0, .int .i64 0, .int .i64 0, .slice none 0 0] 30)).alloc (.cells #[] 57)
                    have B10 := ba (ba S8.b (.cells #[.int .i64 0, .int .i64 0, .int .i64 0, .int .i64 0, .int .i64 0, .slice none 0 0] 30)) (.cells #[] 57)
                    have O10 := ownsA_made (w8.alloc (.cells #[.int .i64 0, .int .i64 0, .int .i64 0, .int .i64 0, .int .i64 0, .slice none 0 0] 30)) w.heap.size 0 #[] (ba S8.b (.cells #[.int .i64 0, .int .i64 0, .int .i64 0, .int .i64 0, .int .i64 0, .slice none 0 0] 30)).size (by decide) rfl
                    rw [World.size_alloc] at O10
                    obtain ⟨WB, hWB⟩ : ∃ WB, (w8.alloc (.cells #[.int .i64 0, .int .i64 0, .int .i64 0, .int .i64 0, .int .i64 0, .slice none 0 0] 30)).alloc (.cells #[] 57) = WB := ⟨_, rfl⟩
                    rw [hWB] at Z10 B10 O10
                    clear S8
                    have z0 := Z10.c0
                    have z1 := Z10.c1
                    have z2 := Z10.c2
                    have z3 := Z10.c3
                    have z4 := Z10.c4
                    have z5 := Z10.c5
                    have zf := Z10.fr
                    unfold jV
                    go_wp2
                    refine bodyPost_ret (ret_j3 rfl rfl rfl rfl (Z10.set (.int .i64 0) (.int .i64 0) (.int .i64 0) (.int .i64 0) (.int .i64 0) (.slice none 0 0))) rfl ?_
                    exact op_zero HB.out B10 Z10 O10
                  | true =>
                    obtain ⟨a8, y8, rfl, hoa, hoy⟩ := hT hq
                    obtain ⟨aa, ak, ac, rfl⟩ := hoa.slice3
                    obtain ⟨ya, yk, yc, rfl⟩ := hoy.slice3
                    obtain ⟨RA, HRA⟩ : ∃ q, Hid (renA (jtX (jn + 1) jt jv js ju L) (jname (jn + 1)) (jname jn) = q) := ⟨_, rfl⟩
                    rw [HRA.out] at hoa
                    have HB : Hid (opB l = true) := by
                      show _ = _
                      unfold opB opJ
                      rw [HD.out, HOE.out, HM.out, HTX.out, HRB.out, H2.out, H3.out, H4.out, H5.out, H7.out, hq]
                      rfl
                    have HFF : Hid (opN l = jn + 1 ∧ (opJ l).t = jt ∧ (opJ l).v = jv ∧ (opJ l).s = js ∧ (opJ l).st = ju ∧ (opJ l).l = L ∧ opA l = dropsOf jn l ++ RA) := by
                      show _ ∧ _
                      unfold opN opA opJ
                      rw [HOE.out, HM.out, HTX.out, H2.out, H3.out, H4.out, H5.out, H7.out, ← HRA.out]
                      exact ⟨rfl, rfl, rfl, rfl, rfl, rfl, rfl⟩
                    have hlenA : (dropsOf jn l).length + RA.length ≤ 1048577 := by
                      have h1 := drops_length jn l
                      have h2 : RA.length = 4 := by rw [← HRA.out]; rfl
                      have h3 := HL.out
                      omega
                    clear hT hF hq
                    have N8 := B6.new w8 (.int .i64 (jn + 1)) (.int .i64 jt) (.int .i64 jv) (.int .i64 js) (.int .i64 ju) (.slice ya yk yc)
                    have Z8 := S8.z.alloc (.cells #[.int .i64 (jn + 1), .int .i64 jt, .int .i64 jv, .int .i64 js, .int .i64 ju, .slice ya yk yc] 30)
                    have B8 := ba S8.b (.cells #[.int .i64 (jn + 1), .int .i64 jt, .int .i64 jv, .int .i64 js, .int .i64 ju, .slice ya yk yc] 30)
                    have A9 := A8.alloc (.cells #[.int .i64 (jn + 1), .int .i64 jt, .int .i64 jv, .int .i64 js, .int .i64 ju, .slice ya yk yc] 30)
                    have R8 := (hoa.mono (B' := w.heap.size) hB8).alloc (.cells #[.int .i64 (jn + 1), .int .i64 jt, .int .i64 jv, .int .i64 js, .int .i64 ju, .slice ya yk yc] 30)
                    have X8 := (hoy.mono (B' := w.heap.size) hB8).alloc (.cells #[.int .i64 (jn + 1), .int .i64 jt, .int .i64 jv, .int .i64 js, .int .i64 ju, .slice ya yk yc] 30)
                    clear S8 A8 hoa hoy
                    unfold jV
                    go_wp2
                    obtain ⟨w9, hw9⟩ : ∃ w9, w8.alloc (.cells #[.int .i64 (jn + 1), .int .i64 jt, .int .i64 jv, .int .i64 js, .int .i64 ju, .slice ya yk yc] 30) = w9 := ⟨_, rfl⟩
                    rw [hw9] at N8 Z8 B8 A9 R8 X8 ⊢
                    clear hw9
                    obtain ⟨g8, hg8⟩ : ∃ g, w8.heap.size = g := ⟨_, rfl⟩
                    rw [hg8] at N8 ⊢
                    clear hg8
                    have y0 := N8.c0
                    have y1 := N8.c1
                    have y2 := N8.c2
                    have y3 := N8.c3
                    have y4 := N8.c4
                    have y5 := N8.c5
                    have z0 := Z8.c0
                    have z1 := Z8.c1
                    have z2 := Z8.c2
                    have z3 := Z8.c3
                    have z4 := Z8.c4
                    have z5 := Z8.c5
                    have zf := Z8.fr
                    have FS : OjF w (set6 w9 (w.heap.size + 1) (.int .i64 (jn + 1)) (.int .i64 jt) (.int .i64 jv) (.int .i64 js) (.int .i64 ju) (.slice ya yk yc)).drew (.int .i64 (jn + 1)) (.int .i64 jt) (.int .i64 jv) (.int .i64 js) (.int .i64 ju) (.slice ya yk yc) (.slice oa on oc) L (dropsOf jn l) := (oj_last B8 Z8 X8 A9).drew
                    have RS : ownsR (set6 w9 (w.heap.size + 1) (.int .i64 (jn + 1)) (.int .i64 jt) (.int .i64 jv) (.int .i64 js) (.int .i64 ju) (.slice ya yk yc)).drew w.heap.size 57 (.slice aa ak ac) RA := ownsR.drew (ownsR_set6 (b := w.heap.size + 1) R8 (not_row6a Z8 R8) (.int .i64 (jn + 1)) (.int .i64 jt) (.int .i64 jv) (.int .i64 js) (.int .i64 ju) (.slice ya yk yc))
                    refine wp_puts' (α := Option Addr × Nat × Nat) (fun x => [(120, jV (jn + 1) jt jv js ju (.slice ya yk yc)), (121, .slice oa on oc), (122, .slice aa ak ac), (123, .slice x.1 x.2.1 x.2.2), (3, .slice x.1 x.2.1 x.2.2), (4, .bool true)]) (fun x w' => OjF w w' (.int .i64 (jn + 1)) (.int .i64 jt) (.int .i64 jv) (.int .i64 js) (.int .i64 ju) (.slice ya yk yc) (.slice x.1 x.2.1 x.2.2) L (dropsOf jn l ++ RA)) ?_ ?_
                    · go_region_law (first
                        | (refine step_append_recs rfl (.tmp 121) (.tmp 122) 31 rfl w.heap.size 57 _ 56 underAc infoAc rfl (.slice oa on oc) (.slice aa ak ac) (dropsOf jn l) RA rfl rfl A9.drew R8.drew.reads (ac_ones _) hlenA (by decide) B8.size ?_; intro v9 w10 ho9 hg9; obtain ⟨a9, k9, c9, rfl⟩ := ho9.slice3; have hu9 := grown_undrew hg9; have Z9 := Z8.grown hu9 (not_row6a Z8 A9); have N9 := N8.grown hu9 (not_row6a N8 A9); have X9 := ownsR.other X8 hu9 (rows_apart X8 A9); have B9 := B8.grown hu9 B8.size (fun k hk => (A9.lt k hk).1); have q0 := N9.c0; have q1 := N9.c1; have q2 := N9.c2; have q3 := N9.c3; have q4 := N9.c4; have q5 := N9.c5; have p0 := Z9.c0; have p1 := Z9.c1; have p2 := Z9.c2; have p3 := Z9.c3; have p4 := Z9.c4; have p5 := Z9.c5; have pf := Z9.fr; clear hg9 hu9)
                        | (refine step_append_recs rfl (.tmp 121) (.tmp 122) 31 rfl w.heap.size 57 _ 56 underAc infoAc rfl (.slice oa on oc) (.slice aa ak ac) (dropsOf jn l) RA rfl rfl FS.2.2.2 RS.reads (ac_ones _) hlenA (by decide) FS.1.size ?_; intro v9 w10 ho9 hg9; obtain ⟨a9, k9, c9, rfl⟩ := ho9.slice3; have F9 := oj_grown FS hg9 ho9; clear hg9))
                      all_goals
                        dsimp only [nrm]
                        first | refine ⟨(a9, k9, c9), ?_, F9⟩ | refine ⟨(a9, k9, c9), ?_, oj_last B9 Z9 X9 ho9⟩
                        kernel_rfl
                    clear FS RS N8 Z8 B8 A9 R8 X8 y0 y1 y2 y3 y4 y5 z0 z1 z2 z3 z4 z5 zf
                    rintro ⟨a9, k9, c9⟩ w10 ⟨B9, Z9, X9, A10⟩
                    simp only [putAll]
                    dsimp only at A10
                    go_wp2
                    refine bodyPost_ret (ret_j3 (p := 2) (u := 3) (u2 := 4) (g := w.heap.size + 1) (x := .slice a9 k9 c9) (y := .bool true) rfl (by kernel_rfl) (by kernel_rfl) (by kernel_rfl) Z9) rfl ?_
                    exact op_yes HB.out HFF.out X9 A10 B9
          · have HND : Hid (newD l = [⟨4, nameNew, ByteArray.empty, ByteArray.empty⟩]) := by show _ = _; unfold newD; rw [hsome]; rfl
            have hkk : (0 : Int) ≤ (kk : Int) := by omega
            have hl1 : ([] : List Ac).length + (oneA nameNew).length ≤ 1048577 := by simp [oneA]
            clear hsome
            go_wp2_with (at_builtin; refine wpList_append_recs rfl (.tmp 67) (.tmp 69) 31 rfl w.heap.size 57 _ 56 underAc infoAc rfl (.slice (some ⟨w.heap.size + 1 + 1, 0, none⟩) 0 0) (.slice (some ⟨w4.heap.size, 0, none⟩) 1 1) [] (oneA nameNew) (by rfl) (by rfl) (O4.alloc _) (reads_actJ (heap_last _ _)) (ac_ones _) hl1 (by decide) (ba S4.b _).size ?_)
            intro v5 w5 ho5 hg5
            obtain ⟨va5, vn5, vc5, rfl⟩ := ho5.slice3
            have S5 : Hid (OpS w w5 g (.slice ao k c) (.int .i64 jn) (.int .i64 jt) (.int .i64 jv) (.int .i64 js) (.int .i64 ju) (.slice ja jk jc) L) := S4.rowA O4 hg5
            have O5 : Hid (ownsR w5 w.heap.size 57 (.slice va5 vn5 vc5) (newD l ++ dropsJ jn (l.take 0))) := by show ownsR _ _ _ _ _; rw [HND.out]; exact ho5
            clear S4 O4 hg5 ho5
            go_wp2
            go_loopw [5, 14] (fun out i wr => ∃ j : Nat, j ≤ k ∧ i = .int .i64 j ∧ ownsR wr w.heap.size 57 out (newD l ++ dropsJ jn (l.take j)) ∧ OpS w wr g (.slice ao k c) (.int .i64 jn) (.int .i64 jt) (.int .i64 jv) (.int .i64 js) (.int .i64 ju) (.slice ja jk jc) L) (fun _ i _ => k - (intOf i).toNat)
            case atStart => exact ⟨0, Nat.zero_le _, rfl, O5.out, S5.out⟩
            case round =>
              obtain ⟨j, hj, rfl, hown, SS⟩ := hrel
              have HSS : Hid (OpS w wr g (.slice ao k c) (.int .i64 jn) (.int .i64 jt) (.int .i64 jv) (.int .i64 js) (.int .i64 ju) (.slice ja jk jc) L) := SS
              obtain ⟨oa, on, oc, rfl⟩ := hown.slice3
              obtain ⟨LJ, ELJ⟩ : ∃ q, Hid (newD l ++ dropsJ jn (l.take j) = q) := ⟨_, rfl⟩
              rw [ELJ.out] at hown
              have d5 := SS.cd
              clear SS S5 O5
              by_cases hlt : j < k
              · obtain ⟨⟨nm, tx', kp⟩, hf⟩ : ∃ f, l[j]? = some f := ⟨_, List.getElem?_eq_getElem (by rw [← HN.out]; exact hlt)⟩
                have HF : Hid (l[j]? = some ⟨nm, tx', kp⟩) := hf
                obtain ⟨b, o, rfl, hb, c0, c1, c2⟩ := fl_at (HR.out.below HSS.out.b) hf
                have hts : Hid (nm.size ≤ 9223372036854775807) := Nat.le_trans (HNM.out _ (List.mem_of_getElem? hf)) (by decide)
                obtain ⟨y, HY⟩ : ∃ y, Hid (numOf nm = y) := ⟨_, rfl⟩
                have CN : Hid (∀ W, Calls Tryz.prog 18 #[.string nm] W fun e w' => e = .returned (.int .i64 y) ∧ Below W.heap.size W w') := fun W => by rw [← HY.out]; exact specNumber_any nm W hts.out
                have hl1 : LJ.length + (oneA nm).length ≤ 1048577 := by
                  rw [← ELJ.out, List.length_append]
                  have h1 := dropsJ_length jn (l.take j)
                  have h2 : (newD l).length ≤ 1 := by unfold newD; split <;> simp
                  have h3 : (oneA nm).length = 1 := rfl
                  have h4 : (l.take j).length ≤ j := by simp; omega
                  omega
                have hj1 : j + 1 ≤ k := by omega
                clear hf
                dsimp only at c0 c1 c2
                go_wp2_with fail
                refine Calls.mono (CN.out _) ?_
                rintro e w6 ⟨rfl, hb6⟩
                have S6 := HSS.out.up hb6
                have ho6 := hown.all hb6
                have hb' : b < w6.heap.size := Nat.lt_of_lt_of_le hb hb6.size
                replace c0 := cell_up hb6 c0
                clear hown d5 c1 c2 hb6 CN hb HSS
                have d6 := S6.cd
                rcases dropJ_cases (m := jn) (f := ⟨nm, tx', kp⟩) HY.out with ⟨hdd, hx0, hxm⟩ | ⟨hdd, hx0⟩ | ⟨hdd, hx0, hxm⟩
                · have HT : Hid (newD l ++ dropsJ jn (l.take (j + 1)) = LJ ++ oneA nm) := by show _ = _; rw [dropsJ_yes HF.out hdd, ← List.append_assoc, ELJ.out]; rfl
                  clear hdd
                  go_wp2_with (at_builtin; refine wpList_append_recs rfl (.tmp 92) (.tmp 100) 31 rfl w.heap.size 57 _ 56 underAc infoAc rfl (.slice oa on oc) (.slice (some ⟨w6.heap.size, 0, none⟩) 1 1) LJ (oneA nm) (by rfl) (by rfl) (ho6.alloc _) (reads_actJ (heap_last _ _)) (ac_ones _) hl1 (by decide) (ba S6.b _).size ?_)
                  intro v7 w7 ho7 hg7
                  have S7 : Hid (OpS w w7 g (.slice (some ⟨b, o, none⟩) k c) (.int .i64 jn) (.int .i64 jt) (.int .i64 jv) (.int .i64 js) (.int .i64 ju) (.slice ja jk jc) L) := S6.rowA ho6 hg7
                  rw [← HT.out] at ho7
                  have HO7 : Hid (ownsR w7 w.heap.size 57 v7 (newD l ++ dropsJ jn (l.take (j + 1)))) := ho7
                  clear S6 ho6 d6 hg7 ho7 c0
                  go_wp2
                  go_roundw
                  case rel => exact ⟨j + 1, hj1, by go_num, HO7.out, S7.out⟩
                  case measure => simp [intOf]; omega
                · have HT : Hid (newD l ++ dropsJ jn (l.take (j + 1)) = LJ) := by show _ = _; rw [dropsJ_no HF.out hdd, ELJ.out]
                  rw [← HT.out] at ho6
                  have S7 : Hid (OpS w w6 g (.slice (some ⟨b, o, none⟩) k c) (.int .i64 jn) (.int .i64 jt) (.int .i64 jv) (.int .i64 js) (.int .i64 ju) (.slice ja jk jc) L) := S6
                  have HO7 : Hid (ownsR w6 w.heap.size 57 (.slice oa on oc) (newD l ++ dropsJ jn (l.take (j + 1)))) := ho6
                  clear hdd S6 ho6 d6 c0
                  go_wp2
                  go_roundw
                  case rel => exact ⟨j + 1, hj1, by go_num, HO7.out, S7.out⟩
                  case measure => simp [intOf]; omega
                · have HT : Hid (newD l ++ dropsJ jn (l.take (j + 1)) = LJ) := by show _ = _; rw [dropsJ_no HF.out hdd, ELJ.out]
                  rw [← HT.out] at ho6
                  have S7 : Hid (OpS w w6 g (.slice (some ⟨b, o, none⟩) k c) (.int .i64 jn) (.int .i64 jt) (.int .i64 jv) (.int .i64 js) (.int .i64 ju) (.slice ja jk jc) L) := S6
                  have HO7 : Hid (ownsR w6 w.heap.size 57 (.slice oa on oc) (newD l ++ dropsJ jn (l.take (j + 1)))) := ho6
                  subst hxm
                  clear hdd S6 ho6 d6 c0
                  go_wp2
                  go_roundw
                  case rel => exact ⟨j + 1, hj1, by go_num, HO7.out, S7.out⟩
                  case measure => simp [intOf]; omega
              · have hjk : j = k := by omega
                subst hjk
                have HO : Hid (ownsR wr w.heap.size 57 (.slice oa on oc) (dropsOf jn l)) := by
                  show ownsR _ _ _ _ _
                  rw [HDR.out]
                  have e := ELJ.out
                  rw [HN.out, List.take_length] at e
                  rw [e]
                  exact hown
                clear hown ELJ hlt hj
                have j0 := HSS.out.j.c0
                have j1 := HSS.out.j.c1
                have j2 := HSS.out.j.c2
                have j3 := HSS.out.j.c3
                have j4 := HSS.out.j.c4
                have j5 := HSS.out.j.c5
                by_cases hend : jp = tx.size
                · have HOE : Hid (opE l = true) := by show _ = _; unfold opE; rw [HM.out, HTX.out, H6.out]; exact decide_eq_true (by omega)
                  have HB : Hid (opB l = true) := by show _ = _; unfold opB; rw [HD.out, HM.out, HTX.out, HRB.out, HOE.out]; rfl
                  have HF : Hid (opN l = jn ∧ (opJ l).t = jt ∧ (opJ l).v = jv ∧ (opJ l).s = js ∧ (opJ l).st = ju ∧ (opJ l).l = L ∧ opA l = dropsOf jn l) := by
                    show _ ∧ _
                    unfold opN opA opJ
                    rw [HOE.out, HM.out, HTX.out]
                    exact ⟨rfl, H2.out, H3.out, H4.out, H5.out, H7.out, by simp⟩
                  subst hend
                  have CC : Hid (Calls Tryz.prog 23 #[jV jn jt jv js ju (.slice ja jk jc)] wr fun e w' => ∃ y, e = .returned (jV jn jt jv js ju y) ∧ ownsR w' wr.heap.size 110 y L ∧ Below wr.heap.size wr w') := l07Copy_try jn jt jv js ju ja jk jc L wr HSS.out.e.reads (by have := HLL.out.1; omega)
                  go_wp2_with fail
                  refine Calls.mono CC.out ?_
                  rintro e w8 ⟨y8, rfl, hoy, hby⟩
                  obtain ⟨ya, yk, yc, rfl⟩ := hoy.slice3
                  have S8 := HSS.out.up hby
                  have A8 := HO.out.all hby
                  have X8 := hoy.mono (B' := w.heap.size) HSS.out.b.size
                  clear HSS HO hoy hby CC d5 j0 j1 j2 j3 j4 j5
                  have z0 := S8.z.c0
                  have z1 := S8.z.c1
                  have z2 := S8.z.c2
                  have z3 := S8.z.c3
                  have z4 := S8.z.c4
                  have z5 := S8.z.c5
                  have zf := S8.z.fr
                  go_wp2
                  have F8 := oj_last (u0 := .int .i64 jn) (u1 := .int .i64 jt) (u2 := .int .i64 jv) (u3 := .int .i64 js) (u4 := .int .i64 ju) S8.b S8.z X8 A8
                  refine bodyPost_ret (ret_j3 rfl rfl rfl rfl F8.2.1) rfl ?_
                  exact op_yes HB.out HF.out F8.2.2.1 F8.2.2.2 F8.1
                · have hend2 : ¬ (jp : Int) = (tx.size : Int) := by omega
                  have HOE : Hid (opE l = false) := by show _ = _; unfold opE; rw [HM.out, HTX.out, H6.out]; exact decide_eq_false (by have := HJP.out; omega)
                  have CA : Hid (Calls Tryz.prog 24 #[jV jn jt jv js ju (.slice ja jk jc), jV jn jt jv js ju (.slice ja jk jc)] wr (AnP jn jt jv js ju L wr)) := l07Anew_try jn jt jv js ju ja jk jc L wr HSS.out.e.reads (by have := HLL.out.1; omega) HLL.out.2 hneg hx9
                  go_wp2_with fail
                  refine Calls.mono CA.out ?_
                  rintro e w8 ⟨hb8, hT, hF⟩
                  have S8 := HSS.out.up hb8
                  have A8 := HO.out.all hb8
                  have hB8 := HSS.out.b.size
                  clear HSS HO hb8 CA d5 j0 j1 j2 j3 j4 j5
                  cases hq : jtB (jn + 1) jt jv js ju L with
                  | false =>
                    obtain ⟨a8, rfl, ho8⟩ := hF hq
                    obtain ⟨aa, ak, ac, rfl⟩ := ho8.slice3
                    have HB : Hid (opB l = false) := by
                      show _ = _
                      unfold opB opJ
                      rw [HOE.out, HM.out, HTX.out, H2.out, H3.out, H4.out, H5.out, H7.out, hq]
                      simp
                    clear hT hF hq ho8 A8
                    have Z10 := (S8.z.alloc (.cells #[.int .i64 0, .int .i64 0, .int .i64 0, .int .i64 0, .int .i64 0, .slice none 0 0] 30)).alloc (.cells #[] 57)
                    have B10 := ba (ba S8.b (.cells #[.int .i64 0, .int .i64 0, .int .i64 0, .int .i64 0, .int .i64 0, .slice none 0 0] 30)) (.cells #[] 57)
                    have O10 := ownsA_made (w8.alloc (.cells #[.int .i64 0, .int .i64 0, .int .i64 0, .int .i64 0, .int .i64 0, .slice none 0 0] 30)) w.heap.size 0 #[] (ba S8.b (.cells #[.int .i64 0, .int .i64 0, .int .i64 0, .int .i64 0, .int .i64 0, .slice none 0 0] 30)).size (by decide) rfl
                    rw [World.size_alloc] at O10
                    obtain ⟨WB, hWB⟩ : ∃ WB, (w8.alloc (.cells #[.int .i64 0, .int .i64 0, .int .i64 0, .int .i64 0, .int .i64 0, .slice none 0 0] 30)).alloc (.cells #[] 57) = WB := ⟨_, rfl⟩
                    rw [hWB] at Z10 B10 O10
                    clear S8
                    have z0 := Z10.c0
                    have z1 := Z10.c1
                    have z2 := Z10.c2
                    have z3 := Z10.c3
                    have z4 := Z10.c4
                    have z5 := Z10.c5
                    have zf := Z10.fr
                    unfold jV
                    go_wp2
                    refine bodyPost_ret (ret_j3 rfl rfl rfl rfl (Z10.set (.int .i64 0) (.int .i64 0) (.int .i64 0) (.int .i64 0) (.int .i64 0) (.slice none 0 0))) rfl ?_
                    exact op_zero HB.out B10 Z10 O10
                  | true =>
                    obtain ⟨a8, y8, rfl, hoa, hoy⟩ := hT hq
                    obtain ⟨aa, ak, ac, rfl⟩ := hoa.slice3
                    obtain ⟨ya, yk, yc, rfl⟩ := hoy.slice3
                    obtain ⟨RA, HRA⟩ : ∃ q, Hid (renA (jtX (jn + 1) jt jv js ju L) (jname (jn + 1)) (jname jn) = q) := ⟨_, rfl⟩
                    rw [HRA.out] at hoa
                    have HB : Hid (opB l = true) := by
                      show _ = _
                      unfold opB opJ
                      rw [HD.out, HOE.out, HM.out, HTX.out, HRB.out, H2.out, H3.out, H4.out, H5.out, H7.out, hq]
                      rfl
                    have HFF : Hid (opN l = jn + 1 ∧ (opJ l).t = jt ∧ (opJ l).v = jv ∧ (opJ l).s = js ∧ (opJ l).st = ju ∧ (opJ l).l = L ∧ opA l = dropsOf jn l ++ RA) := by
                      show _ ∧ _
                      unfold opN opA opJ
                      rw [HOE.out, HM.out, HTX.out, H2.out, H3.out, H4.out, H5.out, H7.out, ← HRA.out]
                      exact ⟨rfl, rfl, rfl, rfl, rfl, rfl, rfl⟩
                    have hlenA : (dropsOf jn l).length + RA.length ≤ 1048577 := by
                      have h1 := drops_length jn l
                      have h2 : RA.length = 4 := by rw [← HRA.out]; rfl
                      have h3 := HL.out
                      omega
                    clear hT hF hq
                    have N8 := B6.new w8 (.int .i64 (jn + 1)) (.int .i64 jt) (.int .i64 jv) (.int .i64 js) (.int .i64 ju) (.slice ya yk yc)
                    have Z8 := S8.z.alloc (.cells #[.int .i64 (jn + 1), .int .i64 jt, .int .i64 jv, .int .i64 js, .int .i64 ju, .slice ya yk yc] 30)
                    have B8 := ba S8.b (.cells #[.int .i64 (jn + 1), .int .i64 jt, .int .i64 jv, .int .i64 js, .int .i64 ju, .slice ya yk yc] 30)
                    have A9 := A8.alloc (.cells #[.int .i64 (jn + 1), .int .i64 jt, .int .i64 jv, .int .i64 js, .int .i64 ju, .slice ya yk yc] 30)
                    have R8 := (hoa.mono (B' := w.heap.size) hB8).alloc (.cells #[.int .i64 (jn + 1), .int .i64 jt, .int .i64 jv, .int .i64 js, .int .i64 ju, .slice ya yk yc] 30)
                    have X8 := (hoy.mono (B' := w.heap.size) hB8).alloc (.cells #[.int .i64 (jn + 1), .int .i64 jt, .int .i64 jv, .int .i64 js, .int .i64 ju, .slice ya yk yc] 30)
                    clear S8 A8 hoa hoy
                    unfold jV
                    go_wp2
                    obtain ⟨w9, hw9⟩ : ∃ w9, w8.alloc (.cells #[.int .i64 (jn + 1), .int .i64 jt, .int .i64 jv, .int .i64 js, .int .i64 ju, .slice ya yk yc] 30) = w9 := ⟨_, rfl⟩
                    rw [hw9] at N8 Z8 B8 A9 R8 X8 ⊢
                    clear hw9
                    obtain ⟨g8, hg8⟩ : ∃ g, w8.heap.size = g := ⟨_, rfl⟩
                    rw [hg8] at N8 ⊢
                    clear hg8
                    have y0 := N8.c0
                    have y1 := N8.c1
                    have y2 := N8.c2
                    have y3 := N8.c3
                    have y4 := N8.c4
                    have y5 := N8.c5
                    have z0 := Z8.c0
                    have z1 := Z8.c1
                    have z2 := Z8.c2
                    have z3 := Z8.c3
                    have z4 := Z8.c4
                    have z5 := Z8.c5
                    have zf := Z8.fr
                    have FS : OjF w (set6 w9 (w.heap.size + 1) (.int .i64 (jn + 1)) (.int .i64 jt) (.int .i64 jv) (.int .i64 js) (.int .i64 ju) (.slice ya yk yc)).drew (.int .i64 (jn + 1)) (.int .i64 jt) (.int .i64 jv) (.int .i64 js) (.int .i64 ju) (.slice ya yk yc) (.slice oa on oc) L (dropsOf jn l) := (oj_last B8 Z8 X8 A9).drew
                    have RS : ownsR (set6 w9 (w.heap.size + 1) (.int .i64 (jn + 1)) (.int .i64 jt) (.int .i64 jv) (.int .i64 js) (.int .i64 ju) (.slice ya yk yc)).drew w.heap.size 57 (.slice aa ak ac) RA := ownsR.drew (ownsR_set6 (b := w.heap.size + 1) R8 (not_row6a Z8 R8) (.int .i64 (jn + 1)) (.int .i64 jt) (.int .i64 jv) (.int .i64 js) (.int .i64 ju) (.slice ya yk yc))
                    refine wp_puts' (α := Option Addr × Nat × Nat) (fun x => [(120, jV (jn + 1) jt jv js ju (.slice ya yk yc)), (121, .slice oa on oc), (122, .slice aa ak ac), (123, .slice x.1 x.2.1 x.2.2), (3, .slice x.1 x.2.1 x.2.2), (4, .bool true)]) (fun x w' => OjF w w' (.int .i64 (jn + 1)) (.int .i64 jt) (.int .i64 jv) (.int .i64 js) (.int .i64 ju) (.slice ya yk yc) (.slice x.1 x.2.1 x.2.2) L (dropsOf jn l ++ RA)) ?_ ?_
                    · go_region_law (first
                        | (refine step_append_recs rfl (.tmp 121) (.tmp 122) 31 rfl w.heap.size 57 _ 56 underAc infoAc rfl (.slice oa on oc) (.slice aa ak ac) (dropsOf jn l) RA rfl rfl A9.drew R8.drew.reads (ac_ones _) hlenA (by decide) B8.size ?_; intro v9 w10 ho9 hg9; obtain ⟨a9, k9, c9, rfl⟩ := ho9.slice3; have hu9 := grown_undrew hg9; have Z9 := Z8.grown hu9 (not_row6a Z8 A9); have N9 := N8.grown hu9 (not_row6a N8 A9); have X9 := ownsR.other X8 hu9 (rows_apart X8 A9); have B9 := B8.grown hu9 B8.size (fun k hk => (A9.lt k hk).1); have q0 := N9.c0; have q1 := N9.c1; have q2 := N9.c2; have q3 := N9.c3; have q4 := N9.c4; have q5 := N9.c5; have p0 := Z9.c0; have p1 := Z9.c1; have p2 := Z9.c2; have p3 := Z9.c3; have p4 := Z9.c4; have p5 := Z9.c5; have pf := Z9.fr; clear hg9 hu9)
                        | (refine step_append_recs rfl (.tmp 121) (.tmp 122) 31 rfl w.heap.size 57 _ 56 underAc infoAc rfl (.slice oa on oc) (.slice aa ak ac) (dropsOf jn l) RA rfl rfl FS.2.2.2 RS.reads (ac_ones _) hlenA (by decide) FS.1.size ?_; intro v9 w10 ho9 hg9; obtain ⟨a9, k9, c9, rfl⟩ := ho9.slice3; have F9 := oj_grown FS hg9 ho9; clear hg9))
                      all_goals
                        dsimp only [nrm]
                        first | refine ⟨(a9, k9, c9), ?_, F9⟩ | refine ⟨(a9, k9, c9), ?_, oj_last B9 Z9 X9 ho9⟩
                        kernel_rfl
                    clear FS RS N8 Z8 B8 A9 R8 X8 y0 y1 y2 y3 y4 y5 z0 z1 z2 z3 z4 z5 zf
                    rintro ⟨a9, k9, c9⟩ w10 ⟨B9, Z9, X9, A10⟩
                    simp only [putAll]
                    dsimp only at A10
                    go_wp2
                    refine bodyPost_ret (ret_j3 (p := 2) (u := 3) (u2 := 4) (g := w.heap.size + 1) (x := .slice a9 k9 c9) (y := .bool true) rfl (by kernel_rfl) (by kernel_rfl) (by kernel_rfl) Z9) rfl ?_
                    exact op_yes HB.out HFF.out X9 A10 B9
end Go.Proofs.YtgpojfkdcdgloaaGreatDoor
