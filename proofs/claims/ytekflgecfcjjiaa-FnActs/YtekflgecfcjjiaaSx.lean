/-
  Acts done one by one: the model's walk.
-/
import Derived.Test.YtekflgecfcjjiaaAcs
import Derived.Test.YtekflgecfcjjiaaLda
namespace Go.Proofs.Ytekflgecfcjjiaa
open Go Go.RowKit

/-- What lies there between two acts: the cell that holds what is left, and the cell of the answer. -/
structure St (w W : World) (X : Nat) (v : Value) (l : List Fl) : Prop where
  out : W.cell? ⟨X, 0, none⟩ = some v
  outf : W.frozen? ⟨X, 0, none⟩ = false
  res : W.cell? ⟨w.heap.size + 1, 0, none⟩ = some (.slice none 0 0)
  resf : W.frozen? ⟨w.heap.size + 1, 0, none⟩ = false
  own : ownsR W (w.heap.size + 1 + 1) 36 v l
  below : Below w.heap.size w W
  ge : w.heap.size + 1 + 1 ≤ X
theorem St.lt {w W : World} {X : Nat} {v : Value} {l : List Fl} (h : St w W X v l) : X < W.heap.size := World.block_lt_of_cell? W _ h.out
theorem St.kept {w W W' : World} {X : Nat} {v : Value} {l : List Fl} (h : St w W X v l) (hb : Below W.heap.size W W') : St w W' X v l :=
  ⟨cell_up hb h.out, frozen_up hb h.out h.outf, cell_up hb h.res, frozen_up hb h.res h.resf, h.own.all hb, h.below.trans (hb.mono h.below.size), h.ge⟩
theorem St.next {w W W' : World} {X X2 : Nat} {v v2 : Value} {l L : List Fl} (h : St w W X v l) (hN : NewRow W W' 36 X2 v2 L) : St w (W'.setCell ⟨X, 0, none⟩ v2) X v2 L := by
  have k := h.kept hN.below
  have hlt := h.lt
  have hge := h.ge
  refine ⟨World.cell?_setCell_same' _ _ _ (by rw [k.out]; rfl), by rw [World.frozen?_setCell]; exact k.outf, ?_, by rw [World.frozen?_setCell]; exact k.resf, ?_, k.below.setCell (p := ⟨X, 0, none⟩) (by simp; omega) _, hge⟩
  · exact (grown_set W' X 0 v2).cell k.res (by simp; omega)
  · exact (hN.own.setBelow (a := ⟨X, 0, none⟩) hlt v2).mono (by omega)
theorem st_a {w : World} {c : Nat} : St w ((((w.alloc (.cells #[.slice none 0 c] 26)).alloc (.cells #[.slice none 0 0] 26)).alloc (.cells #[] 36)).alloc (.cells #[.slice (some ⟨w.heap.size + 1 + 1, 0, none⟩) 0 0] 26)) (w.heap.size + 1 + 1 + 1) (.slice (some ⟨w.heap.size + 1 + 1, 0, none⟩) 0 0) [] := by
  refine ⟨by simp [go_sem], by simp [go_sem], by simp [go_sem], by simp [go_sem], ?_, ba (ba (ba (ba (Below.refl _ _) _) _) _) _, by omega⟩
  have := World.ownsRow_made (base := w.heap.size + 1 + 1) (e := 36) (size := 3) ((w.alloc (.cells #[.slice none 0 c] 26)).alloc (.cells #[.slice none 0 0] 26)) #[] 0 (by simp) (by decide) (by rfl)
  have t2 : (((w.alloc (.cells #[.slice none 0 c] 26)).alloc (.cells #[.slice none 0 0] 26)).alloc (.cells #[] 36)).ownsRow (w.heap.size + 1 + 1) 36 3 (.slice (some ⟨w.heap.size + 1 + 1, 0, none⟩) 0 0) 0 [] := by simpa using this
  exact World.ownsRow.alloc t2 _
theorem st_b {w w1 : World} {u v : Value} {l : List Fl} (hg : (((w.alloc (.cells #[u] 26)).alloc (.cells #[.slice none 0 0] 26)).alloc (.cells #[] 36)).grownBy w1 (some (w.heap.size + 1 + 1))) (ho : ownsR w1 (w.heap.size + 1 + 1) 36 v l) :
    St w (w1.alloc (.cells #[v] 26)) w1.heap.size v l := by
  have hs := hg.size
  simp at hs
  have hb : Below w.heap.size w w1 := (ba (ba (ba (Below.refl _ _) _) _) _).grown hg (by simp; omega) (fun k e => by cases e; omega)
  refine ⟨by simp [go_sem], by simp [go_sem], ?_, ?_, ho.alloc _, ba hb _, by omega⟩
  · have h1 := hg.cell (a := ⟨w.heap.size + 1, 0, none⟩) (v := .slice none 0 0) (by simp [go_sem]) (by simp)
    exact cell_up (ba (Below.refl _ _) _) h1
  · have h1 := hg.cell (a := ⟨w.heap.size + 1, 0, none⟩) (v := .slice none 0 0) (by simp [go_sem]) (by simp)
    have h2 : w1.frozen? ⟨w.heap.size + 1, 0, none⟩ = false := by
      rw [World.frozen?_of_block (hg.block (w.heap.size + 1) (by simp) (by simp))]
      simp [go_sem]
    exact frozen_up (ba (Below.refl _ _) _) h1 h2
theorem flat_cells {w : World} {ad : Addr} {n c : Nat} {l : List Fl} (h : Reads w (.slice (some ad) n c) l) : ∀ j u, (l.flatMap Rec.cells)[j]? = some u → w.cell? (ad.add j) = some u := by
  intro j u hj
  have hne : l ≠ [] := by rintro rfl; simp at hj
  obtain ⟨ao', c', e, h2⟩ := h
  simp only [Value.slice.injEq] at e
  obtain ⟨rfl, rfl, rfl⟩ := e
  obtain ⟨b, o, e2, hlt, hc⟩ := h2 hne
  cases e2
  have hm := Nat.div_add_mod j 3
  have h3 : j % 3 < 3 := Nat.mod_lt _ (by decide)
  have e := flat_at l (j / 3) (j % 3) h3
  rw [fl_width, show j / 3 * 3 + j % 3 = j by omega, hj] at e
  cases hx : l[j / 3]? with
  | none => rw [hx] at e; simp at e
  | some x =>
    rw [hx] at e
    have := hc (j / 3) x hx (j % 3) u e.symm
    rw [fl_width] at this
    have ea : (⟨b, o, none⟩ : Addr).add j = ⟨b, o + j / 3 * 3 + j % 3, none⟩ := by
      by_cases h0 : j = 0
      · subst h0; simp [Addr.add]
      · simp [Addr.add, h0]; omega
    rw [ea]
    exact this
theorem flat_one (l : List Fl) : ∀ u ∈ l.flatMap Rec.cells, u.oneCell' = true := by
  intro u hu
  obtain ⟨f, _, hf⟩ := List.mem_flatMap.1 hu
  have : u = .string f.name ∨ u = .string f.text ∨ u = .int .i64 f.kept := by simpa [Rec.cells, Fl.cells] using hf
  rcases this with rfl | rfl | rfl <;> rfl

set_option maxRecDepth 10000 in
set_option maxHeartbeats 4000000 in
theorem specActs_any (ao bo : Option Addr) (n c m bc : Nat) (l : List Fl) (acts : List Ac) (w : World) (hr : Reads w (.slice ao n c) l) (ha : Reads w (.slice bo m bc) acts) (hn : n ≤ 1048576) (hm : m ≤ 1048576) (hs : SizedA acts) :
    Calls Try.prog 23 #[.agg #[.slice ao n c], .slice bo m bc] w fun e w' => ∃ k o v, Ends l acts k o ∧ e = .returned (.tuple #[.agg #[v], .int .i64 (k : Int)]) ∧ ownsR w' w.heap.size 36 v o ∧ Below w.heap.size w w' := by
  have HR : Hid (Reads w (.slice ao n c) l) := hr
  have HA : Hid (Reads w (.slice bo m bc) acts) := ha
  have HN : Hid (n = l.length) := hr.len
  have HM : Hid (m = acts.length) := ha.len
  have HS : Hid (SizedA acts) := hs
  clear hr hs ha
  obtain ⟨i0, hi0, hz0, hz1, hz2⟩ := info_parts info36
  cases ao
  have hl0 : l = [] := by
    obtain ⟨ao', c', e, h2⟩ := HR.out
    simp only [Value.slice.injEq] at e
    refine Decidable.byContradiction fun hne => ?_
    obtain ⟨b, o, e2, _⟩ := h2 hne
    rw [← e.1] at e2
    cases e2
  subst hl0
  obtain rfl : n = 0 := HN.out
  clear HR HN
  go_enter Try.func23, Try.ntmps23
  go_wp2_with fail
  obtain ⟨W, hW⟩ : ∃ W, (((w.alloc (.cells #[.slice none 0 c] 26)).alloc (.cells #[.slice none 0 0] 26)).alloc (.cells #[] 36)).alloc (.cells #[.slice (some ⟨w.heap.size + 1 + 1, 0, none⟩) 0 0] 26) = W := ⟨_, rfl⟩
  have hst : ∃ v l', l' = ([] : List Fl) ∧ St w W (w.heap.size + 1 + 1 + 1) v l' := ⟨_, _, rfl, hW ▸ st_a⟩
  obtain ⟨v0, l', hl', hst⟩ := hst
  rw [hW]
  clear hW
  generalize hX : w.heap.size + 1 + 1 + 1 = X at *
  clear hX
  rotate_left
  rename_i ad
  go_enter Try.func23, Try.ntmps23
  go_wp2_with (at_builtin; refine wpList_append_own _ (by rfl) _ _ 24 (by rfl) (w.heap.size + 1 + 1) 36 i0 _ 3 40 under24 hi0 hz0 hz1 hz2 (by rfl) (by decide) _ 0 [] (by rfl) ?c0 ad n c (l.flatMap Rec.cells) (by rfl) ?c1 ?c2 ?c3 ?c4 ?c5 ?c6 ?_)
  case c0 =>
    have := World.ownsRow_made (base := w.heap.size + 1 + 1) (e := 36) (size := 3) ((w.alloc (.cells #[.slice (some ad) n c] 26)).alloc (.cells #[.slice none 0 0] 26)) #[] 0 (by simp) (by decide) (by rfl)
    have t2 : (((w.alloc (.cells #[.slice (some ad) n c] 26)).alloc (.cells #[.slice none 0 0] 26)).alloc (.cells #[] 36)).ownsRow (w.heap.size + 1 + 1) 36 3 (.slice (some ⟨w.heap.size + 1 + 1, 0, none⟩) 0 0) 0 [] := by simpa using this
    exact t2
  case c1 => rw [flat_length, ← HN.out]; rfl
  case c2 => exact flat_cells (((HR.out.alloc _).alloc _).alloc _)
  case c3 => exact flat_one l
  case c4 => unfold maxLen; omega
  case c5 => omega
  case c6 => simp
  intro v1 w1 hown hg _
  have ho : ownsR w1 (w.heap.size + 1 + 1) 36 v1 l := by
    unfold ownsR
    rw [← HN.out]
    have t2 : w1.ownsRow (w.heap.size + 1 + 1) 36 3 v1 n (l.flatMap Rec.cells) := by simpa using hown
    exact t2
  obtain ⟨va, vc, rfl⟩ := ho.slice
  have hst0 : St w (w1.alloc (.cells #[.slice va l.length vc] 26)) w1.heap.size (.slice va l.length vc) l := st_b hg ho
  clear hown hg ho
  go_wp2_with fail
  obtain ⟨W, hW⟩ : ∃ W, w1.alloc (.cells #[.slice va l.length vc] 26) = W := ⟨_, rfl⟩
  rw [hW] at hst0 ⊢
  clear hW
  generalize w1.heap.size = X at *
  have hst : ∃ v l', l' = l ∧ St w W X v l' := ⟨_, _, rfl, hst0⟩
  obtain ⟨v0, l', hl', hst⟩ := hst
  clear hst0
  all_goals
    have HL : Hid (l' = _) := hl'
    have H0 : Hid (St w W X v0 l') := hst
    clear hl' hst
    go_loopw [7] (fun i wr => ∃ (k : Nat) (v : Value) (o : List Fl), k ≤ m ∧ i = .int .i64 k ∧ Hid ((acts.take k).foldlM actL l' = some o) ∧ St w wr X v o) (fun i _ => m - (intOf i).toNat)
    case atStart => exact ⟨0, v0, l', Nat.zero_le _, rfl, rfl, H0.out⟩
    case round =>
      clear H0
      obtain ⟨k, v, o, hk, rfl, HO, hS⟩ := hrel
      obtain ⟨va, vc, rfl⟩ := hS.own.slice
      by_cases hlt : k < m
      · obtain ⟨⟨kind, nm, tx, to⟩, hf⟩ : ∃ f, acts[k]? = some f := ⟨_, List.getElem?_eq_getElem (by rw [← HM.out]; exact hlt)⟩
        obtain ⟨b, oo, rfl, hb, c0, c1, c2, c3⟩ := ac_at (HA.out.below hS.below) hf
        obtain ⟨t1, t2, t3⟩ := HS.out _ (List.mem_of_getElem? hf)
        have HX := fold_next HO.out hf
        have HK : Hid (acts[k]? = some ⟨kind, nm, tx, to⟩) := hf
        clear hf
        dsimp only at c0 c1 c2 c3 t1 t2 t3
        have CS : Hid (∀ (w : World) (v : Value), Reads w v o → Calls Try.prog 34 #[.agg #[v], .agg #[.int .i64 kind, .string nm, .string tx, .string to]] w fun e w' => ∃ v', e = .returned (.tuple #[.agg #[v'], .bool (actL o ⟨kind, nm, tx, to⟩).isSome]) ∧ ownsR w' w.heap.size 36 v' ((actL o ⟨kind, nm, tx, to⟩).getD []) ∧ Below w.heap.size w w') := fun w v h => by
          obtain ⟨ao, c, rfl, _⟩ := id h
          exact specAct_any ao _ c o kind nm tx to w h t2
        cases hac : actL o ⟨kind, nm, tx, to⟩ with
        | none =>
          rw [hac] at CS HX
          simp only [Option.isSome_none, Option.getD_none] at CS
          have HC : Hid (actL o ⟨kind, nm, tx, to⟩ = none) := hac
          clear hac HX
          have e0 := Below.cellOf (B := wr.heap.size) (World.block_lt_of_cell? _ _ hS.out) hS.out
          have e1 := Below.cellOf (B := wr.heap.size) (World.block_lt_of_cell? _ _ c0) c0
          have e2 := Below.cellOf (B := wr.heap.size) (World.block_lt_of_cell? _ _ c1) c1
          have e3 := Below.cellOf (B := wr.heap.size) (World.block_lt_of_cell? _ _ c2) c2
          have e4 := Below.cellOf (B := wr.heap.size) (World.block_lt_of_cell? _ _ c3) c3
          have HH : Hid (St w wr X (.slice va o.length vc) o) := hS
          clear hS
          go_wp2_with fail
          refine wp_puts (α := Nat × Option Addr × Nat) (fun x => [(22, .agg #[.slice va o.length vc]), (23, .slice (some ⟨b, oo, none⟩) m bc), (24, .int .i64 k), (25, .pointer (some ⟨b, oo + k * 4, none⟩)), (26, .agg #[.int .i64 kind, .string nm, .string tx, .string to]), (27, .tuple #[.agg #[.slice x.2.1 ([] : List Fl).length x.2.2], .bool false]), (21, .tuple #[.agg #[.slice x.2.1 ([] : List Fl).length x.2.2], .bool false]), (28, .agg #[.slice x.2.1 ([] : List Fl).length x.2.2]), (29, .bool false), (8, .pointer (some ⟨x.1, 0, none⟩)), (9, .bool false)]) (fun x w' => NewRow wr w' 36 x.1 (.slice x.2.1 ([] : List Fl).length x.2.2) ([] : List Fl)) ?_ ?_
          · go_region_held3 (fun w' => Below wr.heap.size wr w') ((first | exact (Below.refl _ _).drew | exact (keep_on hb3 (by assumption) (Nat.le_refl _)) | exact (Below.alloc (by assumption) (Below.size (by assumption)) _) | exact (Below.alloc hS3 hS3.size _) | exact (Below.setCell hS3 (Nat.le_refl _) _))) ((go_at_call 34; refine (CS.out _ _ (Reads.below HH.out.own.reads (by assumption))).mono ?_; rintro e w3' ⟨v3', rfl, ho3, hb3⟩; have hS3 := keep_on (B := wr.heap.size) (W := wr) hb3 (by assumption) (Nat.le_refl _); obtain ⟨a3', d3', rfl⟩ := ho3.slice; first | (have hcx : w3'.cell? ⟨wr.heap.size, 0, none⟩ = some (.slice none 0 0) := cell_new (w := wr.drew) hb3; have hfx : w3'.frozen? ⟨wr.heap.size, 0, none⟩ = false := frozen_new (w := wr.drew) hb3) | skip))
            all_goals first | refine ⟨rfl, ⟨_, a3', d3'⟩, ?_, newRow_b (W := wr.drew) (Below.refl _ _).drew ho3 hb3⟩ | refine ⟨rfl, ⟨_, a3', d3'⟩, ?_, newRow_m (W := wr.drew) (Below.refl _ _).drew ho3 hb3⟩
            all_goals kernel_rfl
          clear e0 e1 e2 e3 e4
          rintro ⟨X2, a2, d2⟩ w2 hN
          simp only [putAll]
          dsimp only at hN
          have hk2 := HH.out.kept hN.below
          have q1 := hk2.out
          have q2 := hk2.res
          have q3 := hk2.resf
          go_wp2_with fail
          refine bodyPost_ret (ret_disk2 rfl rfl rfl (World.cell?_setCell_same' _ _ _ (by simp [q2]))) rfl ?_
          refine ⟨k, o, _, ⟨by rw [← HL.out]; exact HO.out, by rw [← HM.out]; exact hk, fun a ha => ?_⟩, rfl, (hk2.own.setBelow (by show w.heap.size + 1 < _; omega) _).mono (by omega), hk2.below.setCell (p := ⟨w.heap.size + 1, 0, none⟩) (by simp) _⟩
          · rw [HK.out] at ha
            cases ha
            exact HC.out
        | some o2 =>
          rw [hac] at CS HX
          simp only [Option.isSome_some, Option.getD_some] at CS
          have HX2 : Hid ((acts.take (k + 1)).foldlM actL l' = some o2) := HX
          clear hac HX
          have e0 := Below.cellOf (B := wr.heap.size) (World.block_lt_of_cell? _ _ hS.out) hS.out
          have e1 := Below.cellOf (B := wr.heap.size) (World.block_lt_of_cell? _ _ c0) c0
          have e2 := Below.cellOf (B := wr.heap.size) (World.block_lt_of_cell? _ _ c1) c1
          have e3 := Below.cellOf (B := wr.heap.size) (World.block_lt_of_cell? _ _ c2) c2
          have e4 := Below.cellOf (B := wr.heap.size) (World.block_lt_of_cell? _ _ c3) c3
          have HH : Hid (St w wr X (.slice va o.length vc) o) := hS
          clear hS
          go_wp2_with fail
          refine wp_puts (α := Nat × Option Addr × Nat) (fun x => [(22, .agg #[.slice va o.length vc]), (23, .slice (some ⟨b, oo, none⟩) m bc), (24, .int .i64 k), (25, .pointer (some ⟨b, oo + k * 4, none⟩)), (26, .agg #[.int .i64 kind, .string nm, .string tx, .string to]), (27, .tuple #[.agg #[.slice x.2.1 (o2).length x.2.2], .bool true]), (21, .tuple #[.agg #[.slice x.2.1 (o2).length x.2.2], .bool true]), (28, .agg #[.slice x.2.1 (o2).length x.2.2]), (29, .bool true), (8, .pointer (some ⟨x.1, 0, none⟩)), (9, .bool true)]) (fun x w' => NewRow wr w' 36 x.1 (.slice x.2.1 (o2).length x.2.2) (o2)) ?_ ?_
          · go_region_held3 (fun w' => Below wr.heap.size wr w') ((first | exact (Below.refl _ _).drew | exact (keep_on hb3 (by assumption) (Nat.le_refl _)) | exact (Below.alloc (by assumption) (Below.size (by assumption)) _) | exact (Below.alloc hS3 hS3.size _) | exact (Below.setCell hS3 (Nat.le_refl _) _))) ((go_at_call 34; refine (CS.out _ _ (Reads.below HH.out.own.reads (by assumption))).mono ?_; rintro e w3' ⟨v3', rfl, ho3, hb3⟩; have hS3 := keep_on (B := wr.heap.size) (W := wr) hb3 (by assumption) (Nat.le_refl _); obtain ⟨a3', d3', rfl⟩ := ho3.slice; first | (have hcx : w3'.cell? ⟨wr.heap.size, 0, none⟩ = some (.slice none 0 0) := cell_new (w := wr.drew) hb3; have hfx : w3'.frozen? ⟨wr.heap.size, 0, none⟩ = false := frozen_new (w := wr.drew) hb3) | skip))
            all_goals first | refine ⟨rfl, ⟨_, a3', d3'⟩, ?_, newRow_b (W := wr.drew) (Below.refl _ _).drew ho3 hb3⟩ | refine ⟨rfl, ⟨_, a3', d3'⟩, ?_, newRow_m (W := wr.drew) (Below.refl _ _).drew ho3 hb3⟩
            all_goals kernel_rfl
          clear e0 e1 e2 e3 e4
          rintro ⟨X2, a2, d2⟩ w2 hN
          simp only [putAll]
          dsimp only at hN
          have hk2 := HH.out.kept hN.below
          have q1 := hk2.out
          have q2 := hk2.outf
          have q3 := hN.cellAt
          have R := HH.out.next hN
          clear hk2 hN
          go_wp2_with fail
          go_roundw
          case rel => exact ⟨k + 1, _, o2, by omega, by go_num, HX2, R⟩
          case measure => simp [intOf]; omega
      · have hkm : k = m := by omega
        have q1 := hS.out
        have q2 := hS.res
        have q3 := hS.resf
        go_wp2_with fail
        refine bodyPost_ret (ret_disk2 rfl rfl rfl (World.cell?_setCell_same' _ _ _ (by simp [q2]))) rfl ?_
        refine ⟨k, o, _, ⟨by rw [← HL.out]; exact HO.out, by rw [← HM.out]; exact hk, fun a ha => ?_⟩, by rw [hkm]; rfl, (hS.own.setBelow (by show w.heap.size + 1 < _; omega) _).mono (by omega), hS.below.setCell (p := ⟨w.heap.size + 1, 0, none⟩) (by simp) _⟩
        have := (List.getElem?_eq_some_iff.1 ha).1
        rw [← HM.out] at this
        omega
end Go.Proofs.Ytekflgecfcjjiaa
