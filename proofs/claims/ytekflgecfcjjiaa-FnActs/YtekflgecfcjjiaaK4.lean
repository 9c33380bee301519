/-
  A disk that is drawn, right or spoilt: what lies there meanwhile. A disk that is drawn, right or spoilt: the walk.
-/
import Derived.Test.YtekflgecfcjjiaaK3
import Derived.Test.YtekflgecfcjjiaaStp
import Derived.Deep.RegionLaw
import Derived.Deep.RegionHeldLaw
namespace Go.Proofs.Ytekflgecfcjjiaa
open Go Go.RowKit

/-- What lies there while a disk is drawn from a cursor that came in. -/
structure Dd (w W : World) (g : Nat) (v : Value) (L : List Fl) : Prop where
  drw : Drw W g
  hg : g < w.heap.size
  box : W.cell? ⟨w.heap.size + 1, 0, none⟩ = some v
  boxf : W.frozen? ⟨w.heap.size + 1, 0, none⟩ = false
  res : W.cell? ⟨w.heap.size, 0, none⟩ = some (.slice none 0 0)
  resf : W.frozen? ⟨w.heap.size, 0, none⟩ = false
  own : ownsR W (w.heap.size + 1 + 1) 36 v L
  sv : Save g w W
theorem Dd.lt {w W : World} {g : Nat} {v : Value} {L : List Fl} (h : Dd w W g v L) : w.heap.size + 1 < W.heap.size := World.block_lt_of_cell? W _ h.box
theorem Dd.save {w W W' : World} {g : Nat} {v : Value} {L : List Fl} (h : Dd w W g v L) (hs : Save g W W') (hd : Drw W' g) : Dd w W' g v L := by
  have h1 := h.hg
  exact ⟨hd, h1, cell_save hs h.box (by simp; omega), frozen_save hs h.box h.boxf (by simp; omega), cell_save hs h.res (by simp; omega), frozen_save hs h.res h.resf (by simp; omega), h.own.save hs (by omega), h.sv.trans hs⟩
theorem Dd.all {w W W' : World} {g : Nat} {v : Value} {L : List Fl} (h : Dd w W g v L) (hb : Below W.heap.size W W') : Dd w W' g v L := by
  have h1 := h.drw.lt
  exact h.save (Save.of_below hb) (h.drw.keep (hb.mono (by omega)))
/-- Another row in the box. -/
theorem Dd.box' {w W : World} {g : Nat} {v v' : Value} {L L' : List Fl} (k : Dd w W g v L) (ho : ownsR W (w.heap.size + 1 + 1) 36 v' L') : Dd w (W.setCell ⟨w.heap.size + 1, 0, none⟩ v') g v' L' := by
  have h1 := k.hg
  have c1 := k.box
  refine ⟨k.drw.keep ((Below.refl _ _).setCell (p := ⟨w.heap.size + 1, 0, none⟩) (by simp; omega) _), h1, World.cell?_setCell_same' _ _ _ (by rw [c1]; rfl), by rw [World.frozen?_setCell]; exact k.boxf, ?_, by rw [World.frozen?_setCell]; exact k.resf, ho.setBelow (a := ⟨w.heap.size + 1, 0, none⟩) (by simp) v', k.sv.setNew (by simp) _⟩
  exact (grown_set W (w.heap.size + 1) 0 v').cell k.res (by simp)
theorem Dd.put {w W w7 : World} {g : Nat} {v v7 : Value} {L L' : List Fl} (h : Dd w W g v L) (ho : ownsR w7 W.heap.size 36 v7 L') (hb : Below W.heap.size W w7) : Dd w (w7.setCell ⟨w.heap.size + 1, 0, none⟩ v7) g v7 L' := by
  have h3 := h.lt
  exact (h.all hb).box' (ho.mono (by omega))
/-- One cell of a file written. -/
theorem Dd.cell {w W : World} {g b n c i j : Nat} {L : List Fl} {x : Fl} (k : Dd w W g (.slice (some ⟨b, 0, none⟩) n c) L) (x' : Fl) {u : Value} (hi : L[i]? = some x) (hj : j < 3) (hc : Rec.cells x' = (Rec.cells x).set j u) :
    Dd w (W.setCell ⟨b, i * 3 + j, none⟩ u) g (.slice (some ⟨b, 0, none⟩) n c) (L.set i x') := by
  have h1 := k.hg
  obtain ⟨_, hb, _, _⟩ := k.own.at hi
  refine ⟨k.drw.keep ((Below.refl _ _).setCell (p := ⟨b, i * 3 + j, none⟩) (by simp; omega) _), h1, ?_, by rw [World.frozen?_setCell]; exact k.boxf, ?_, by rw [World.frozen?_setCell]; exact k.resf, ownsR.put k.own x' hi hj hc, k.sv.setNew (by simp; omega) _⟩
  · exact (grown_set W b _ u).cell k.box (by simp; omega)
  · exact (grown_set W b _ u).cell k.res (by simp; omega)

theorem sized_right {L : List Fl} (h : diskR L = true) : Sized L := by
  intro f hf
  have h2 := (diskR_iff.1 h).2.1 f hf
  simp only [Fl.right, nameR, Bool.and_eq_true, decide_eq_true_eq] at h2
  omega
theorem RightTo.small {L : List Fl} {k : Nat} (h : RightTo L k) (hk : k ≤ 100) : SmD L := ⟨Nat.le_trans h.len hk, sized_right h.right⟩
theorem SmD.set {L : List Fl} (h : SmD L) {i : Nat} {x : Fl} (h1 : x.name.size ≤ 1048576) (h2 : x.text.size ≤ 1048576) : SmD (L.set i x) := by
  refine ⟨by rw [List.length_set]; exact h.1, fun f hf => ?_⟩
  rcases List.mem_or_eq_of_mem_set hf with h3 | rfl
  · exact h.2 f h3
  · exact ⟨h1, h2⟩
theorem SmD.more {L : List Fl} (h : SmD L) (hl : L.length < 100) {x : Fl} (h1 : x.name.size ≤ 1048576) (h2 : x.text.size ≤ 1048576) : SmD (L ++ [x]) := by
  refine ⟨by simp; omega, fun f hf => ?_⟩
  rcases List.mem_append.1 hf with h3 | h3
  · exact h.2 f h3
  · cases List.mem_singleton.1 h3; exact ⟨h1, h2⟩
end Go.Proofs.Ytekflgecfcjjiaa

namespace Go.Proofs.Ytekflgecfcjjiaa
open Go Go.RowKit

theorem long_int (x : Int) (w : World) (h0 : 0 < x) (hn : x ≤ 1000000) :
    Calls Try.prog 81 #[.int .i64 x, .int .u8 65] w fun e w' => ∃ t : ByteArray, e = .returned (.string t) ∧ t.size ≤ 1000000 ∧ Below w.heap.size w w' := by
  have h := long_any x.toNat 65 w (by omega) (by omega)
  rw [Int.toNat_of_nonneg (by omega)] at h
  refine h.mono ?_
  rintro e w' ⟨t, h1, h2, h3⟩
  exact ⟨t, h1, by omega, h3⟩
/-- The row in the box has grown. -/
theorem Dd.grow {w W w3 : World} {g : Nat} {v v3 : Value} {L L3 : List Fl} (k : Dd w W g v L) (hg : W.grownBy w3 v.ownBlock) (ho : ownsR w3 (w.heap.size + 1 + 1) 36 v3 L3) : Dd w (w3.setCell ⟨w.heap.size + 1, 0, none⟩ v3) g v3 L3 := by
  have h1 := k.hg
  have h2 := k.lt
  have hb : Below (w.heap.size + 1 + 1) W w3 := (Below.refl _ _).grown hg (by omega) (fun j hj => (k.own.lt j hj).1)
  have c3 : w3.cell? ⟨w.heap.size + 1, 0, none⟩ = some v := (hb.cell (p := ⟨w.heap.size + 1, 0, none⟩) (by simp)).trans k.box
  refine ⟨(k.drw.keep (hb.mono (by omega))).keep ((Below.refl _ _).setCell (p := ⟨w.heap.size + 1, 0, none⟩) (by simp; omega) _), h1, World.cell?_setCell_same' _ _ _ (by rw [c3]; rfl), by rw [World.frozen?_setCell]; exact (hb.frozen (p := ⟨w.heap.size + 1, 0, none⟩) (by simp)).trans k.boxf, ?_, by rw [World.frozen?_setCell]; exact (hb.frozen (p := ⟨w.heap.size, 0, none⟩) (by simp; omega)).trans k.resf, ho.setBelow (a := ⟨w.heap.size + 1, 0, none⟩) (by simp) v3, (k.sv.below_on hb (by omega)).setNew (by simp) _⟩
  exact (grown_set w3 (w.heap.size + 1) 0 v3).cell ((hb.cell (p := ⟨w.heap.size, 0, none⟩) (by simp; omega)).trans k.res) (by simp)
theorem decimal_int (x : Int) (w : World) (h0 : 0 < x) (hn : x ≤ 1000000) :
    Calls Try.prog 80 #[.int .i64 x] w fun e w' => e = .returned (.string (bstr (decI x.toNat))) ∧ Below w.heap.size w w' := by
  have h := decimal_any x.toNat w (by omega) (by omega)
  rw [Int.toNat_of_nonneg (by omega)] at h
  exact h
theorem Dd.exit {w W : World} {g : Nat} {v : Value} {L : List Fl} (h : Dd w W g v L) : ownsR (W.setCell ⟨w.heap.size, 0, none⟩ v) w.heap.size 36 v L ∧ Drw (W.setCell ⟨w.heap.size, 0, none⟩ v) g ∧ Save g w (W.setCell ⟨w.heap.size, 0, none⟩ v) := by
  have h1 := h.hg
  exact ⟨(h.own.setBelow (a := ⟨w.heap.size, 0, none⟩) (by show w.heap.size < w.heap.size + 1 + 1; omega) v).mono (by omega), h.drw.keep ((Below.refl _ _).setCell (p := ⟨w.heap.size, 0, none⟩) (by simp; omega) _), h.sv.setNew (Nat.le_refl _) _⟩

set_option maxRecDepth 10000 in
set_option maxHeartbeats 4000000 in
theorem disk_drawn : DiskDrawn := by
  intro g w hd
  have hg := hd.lt
  have hr0 : Dd w ((w.alloc (.cells #[.slice none 0 0] 26)).alloc (.cells #[.slice none 0 0] 26)) g (.slice none 0 0) [] :=
    ⟨hd.keep (((Below.refl _ _).alloc (by omega) _).alloc (by simp; omega) _), hg, by simp [go_sem], by simp [go_sem], by simp [go_sem], by simp [go_sem], ownsR_nil _ _ _, ((Save.refl g w).alloc _).alloc _⟩
  clear hd
  go_enter Try.func56, Try.ntmps56
  go_wp2_with fail
  obtain ⟨W, hW⟩ : ∃ W, (w.alloc (.cells #[.slice none 0 0] 26)).alloc (.cells #[.slice none 0 0] 26) = W := ⟨_, rfl⟩
  rw [hW] at hr0 ⊢
  clear hW
  have H0 : Hid (Dd w W g (.slice none 0 0) []) := hr0
  clear hr0
  go_loopw [4] (fun i wr => ∃ (k : Nat) (v : Value) (L : List Fl), k ≤ 5 ∧ i = .int .i64 k ∧ Dd w wr g v L ∧ Hid (RightTo L k)) (fun i _ => 5 - (intOf i).toNat)
  case atStart => exact ⟨0, _, [], Nat.zero_le _, rfl, H0.out, ⟨rfl, Nat.le_refl _⟩⟩
  case round =>
    clear H0
    obtain ⟨k, v, L, hk, rfl, hR, HL⟩ := hrel
    obtain ⟨va, vc, rfl⟩ := hR.own.slice
    go_wp2_with fail
    refine (below_any g 6 _ hR.drw (by decide) (by decide)).mono ?_
    rintro e w2 ⟨x, rfl, hx0, hx1, hd2, hs2⟩
    have R2 := hR.save hs2 hd2
    clear hR hs2 hd2
    by_cases hkx : (k : Int) < x
    · go_wp2_with fail
      refine (below_any g 9 _ R2.drw (by decide) (by decide)).mono ?_
      rintro e w3 ⟨y, rfl, hy0, hy1, hd3, hs3⟩
      obtain ⟨yn, rfl⟩ := Int.eq_ofNat_of_zero_le hy0
      have R3 := R2.save hs3 hd3
      clear R2 hs3 hd3
      go_wp2_with fail
      refine (dtext_any g yn _ R3.drw (by omega)).mono ?_
      rintro e w4 ⟨t, rfl, ht, hd4, hs4⟩
      have R4 := R3.save hs4 hd4
      have ht30 : t.size < 30 := by omega
      clear R3 hs4 hd4 ht
      have R4 : Dd w w4.drew g (.slice va L.length vc) L := R4.save (W' := w4.drew) (Save.refl g w4).drew R4.drw
      have c4 := R4.box
      have hwr : IntKind.i64.wrap ((t.size : Int) + 1) = (t.size : Int) + 1 := by go_arith
      have hL1 := HL.out.len
      go_wp2_with fail
      refine wp_puts' (α := Lay) (fun x => [(19, .agg #[.slice va L.length vc]), (20, .pointer (some ⟨g, 0, none⟩)), (21, .string x.nm), (22, .string t), (23, .pointer (some ⟨g, 0, none⟩)), (24, .string t), (25, .int .i64 (t.size : Int)), (26, .int .i64 ((t.size : Int) + 1)), (27, .int .i64 x.kp), (28, .agg #[.string x.nm, .string t, .int .i64 x.kp]), (29, .agg #[.slice x.a x.n x.d])]) (fun x w' => (nameR x.nm = true ∧ 0 ≤ x.kp ∧ x.kp ≤ t.size) ∧ Dd w w' g (.slice x.a x.n x.d) (putL L ⟨x.nm, t, x.kp⟩)) ?_ ?_
      · go_region_with (first | (go_at_call 51; refine (named_any g _ R4.drw).mono ?_; rintro e w5 ⟨nm, rfl, hnm, hd5, hs5⟩; have R5 := R4.save hs5 hd5; have c5 := R5.box) | (go_at_call 48; refine (below_any g _ _ R5.drw (by omega) (by omega)).mono ?_; rintro e w6 ⟨kp, rfl, hk0, hk1, hd6, hs6⟩; have R6 := R5.save hs6 hd6; have c6 := R6.box) | (go_at_call 50; refine (put_try _ _ _ L nm t kp _ R6.own.reads (by omega)).mono ?_; rintro e w7 ⟨v7, rfl, ho7, hb7⟩; obtain ⟨a7, n7, d7, rfl⟩ := slice_three ho7; have c7 := cell_up hb7 c6; have f7 := frozen_on2 hb7 c6 R6.boxf))
        all_goals
          dsimp only [nrm]
          refine ⟨⟨nm, kp, a7, n7, d7⟩, ?_, ⟨hnm, hk0, by show kp ≤ (t.size : Int); omega⟩, R6.put ho7 hb7⟩
          kernel_rfl
      clear c4 R4 hwr
      rintro ⟨nm, kp, a7, n7, d7⟩ w8 ⟨⟨hnm, hk0, hk1⟩, R8⟩
      simp only [putAll]
      dsimp only at hnm hk0 hk1 R8
      have HL8 : Hid (RightTo (putL L ⟨nm, t, kp⟩) (k + 1)) := HL.out.put (by omega) hnm (by omega) hk0 hk1
      go_wp2_with fail
      go_roundw
      case rel => exact ⟨k + 1, _, _, by omega, by go_num, R8, HL8⟩
      case measure => simp [intOf]; omega
    · have c2 := R2.box
      have r2 := R2.res
      have f2 := R2.resf
      by_cases hL0 : L.length = 0
      · go_wp2_with fail
        refine bodyPost_ret (ret_disk rfl rfl (World.cell?_setCell_same' _ _ _ (by simp [r2]))) rfl ?_
        have T := R2.exit
        simp only [hL0] at T
        exact ⟨_, L, rfl, T.1, HL.out.small (by omega), T.2⟩
      · clear c2 r2 f2
        have c2 := R2.box
        have HS : Hid (SmD L) := HL.out.small (by omega)
        have hL30 : L.length ≤ 5 := by have := HL.out.len; omega
        obtain ⟨b, rfl⟩ : ∃ b, va = some ⟨b, 0, none⟩ := by
          rcases R2.own.2 with ⟨_, hn⟩ | ⟨b, cap, cur, h, _⟩
          · exact absurd hn hL0
          · simp only [Value.slice.injEq] at h
            exact ⟨b, h.1⟩
        go_wp2_with fail
        refine (below_any g _ _ R2.drw (by omega) (by omega)).mono ?_
        rintro e w3 ⟨ix, rfl, hi0, hi1, hd3, hs3⟩
        obtain ⟨i, rfl⟩ := Int.eq_ofNat_of_zero_le hi0
        have R3 := R2.save hs3 hd3
        clear R2 hs3 hd3 c2 HL
        go_wp2_with fail
        refine (below_any g 40 _ R3.drw (by decide) (by decide)).mono ?_
        rintro e w4 ⟨y, rfl, hy0, hy1, hd4, hs4⟩
        have R4 := R3.save hs4 hd4
        clear R3 hs4 hd4
        obtain ⟨⟨nm, tx, kp⟩, hf⟩ : ∃ f, L[i]? = some f := ⟨L[i]'(by omega), List.getElem?_eq_getElem _⟩
        have hz := HS.out.2 _ (List.mem_of_getElem? hf)
        dsimp only at hz
        have R5 : Dd w w4.drew g (.slice (some ⟨b, 0, none⟩) L.length vc) L := R4.save (W' := w4.drew) (Save.refl g w4).drew R4.drw
        have c5 := R5.box
        obtain ⟨hbl, hbB, _, hat⟩ := R5.own.at hf
        have e50 : w4.drew.cell? ⟨b, i * 3, none⟩ = some (.string nm) := (hat 0 (by decide)).1
        have e51 : w4.drew.cell? ⟨b, i * 3 + 1, none⟩ = some (.string tx) := (hat 1 (by decide)).1
        have e52 : w4.drew.cell? ⟨b, i * 3 + 2, none⟩ = some (.int .i64 kp) := (hat 2 (by decide)).1
        have hbx : w.heap.size + 1 < w4.heap.size := R5.lt
        have hbl2 : b < w4.heap.size := hbl
        have c4 : w4.cell? ⟨w.heap.size + 1, 0, none⟩ = some (.slice (some ⟨b, 0, none⟩) L.length vc) := R4.box
        clear hat
        by_cases y0 : y = 0
        · subst y0
          have hwr : IntKind.i64.wrap ((tx.size : Int) + 1) = (tx.size : Int) + 1 := by have := hz.2; go_arith
          go_wp2_with fail
          refine wp_puts' (α := Int) (fun x => [(44, (.pointer (some ⟨w.heap.size + 1, 0, none⟩))), (45, (.slice (some ⟨b, 0, none⟩) L.length vc)), (46, (.int .i64 (i : Int))), (47, (.pointer (some ⟨g, 0, none⟩))), (48, (.pointer (some ⟨w.heap.size + 1, 0, none⟩))), (49, (.slice (some ⟨b, 0, none⟩) L.length vc)), (50, (.int .i64 (i : Int))), (51, (.pointer (some ⟨b, i * 3, none⟩))), (52, (.pointer (some ⟨b, i * 3 + 1, none⟩))), (53, (.string tx)), (54, (.int .i64 (tx.size : Int))), (55, (.int .i64 ((tx.size : Int) + 1))), (56, (.slice (some ⟨w4.heap.size, 0, none⟩) 2 2)), (57, (.int .i64 x)), (58, (.pointer (some ⟨b, i * 3, none⟩))), (59, (.pointer (some ⟨b, i * 3 + 2, none⟩)))]) (fun x w' => Dd w w' g (.slice (some ⟨b, 0, none⟩) L.length vc) (L.set i ⟨nm, tx, x⟩)) ?_ ?_
          · go_region_with (go_at_call 79; refine (pickLit_from g [-1, (tx.size : Int) + 1] w4.drew w4.drew R5.drw (Save.refl _ _) (by simp) (by simp) (by have := hz.2; simp; omega) _ (by rfl) _ (by rfl)).mono ?_; rintro e w6 ⟨z, rfl, _, _, hd6, hs6⟩; have R6 := R5.save hs6 hd6; have c6 := R6.box; obtain ⟨hbl6, _, _, hat6⟩ := R6.own.at hf; have e62 : w6.cell? ⟨b, i * 3 + 2, none⟩ = some (.int .i64 kp) := (hat6 2 (by decide)).1; have f62 : w6.frozen? ⟨b, i * 3 + 2, none⟩ = false := (hat6 2 (by decide)).2; clear hat6)
            all_goals
              dsimp only [nrm]
              refine ⟨z, ?_, R6.cell ⟨nm, tx, z⟩ hf (j := 2) (by decide) rfl⟩
              kernel_rfl
          clear hwr c5 c4 e50 e51 e52 R5
          rintro z w8 R8
          simp only [putAll]
          have SM : SmD (L.set i ⟨nm, tx, z⟩) := HS.out.set hz.1 hz.2
          have c9 := R8.box
          have r9 := R8.res
          have f9 := R8.resf
          go_wp2_with fail
          refine bodyPost_ret (ret_disk rfl rfl (World.cell?_setCell_same' _ _ _ (by simp [r9]))) rfl ?_
          exact ⟨_, _, rfl, R8.exit.1, SM, R8.exit.2⟩
        have b0 : (y == 0) = false := beq_false_of_ne y0
        by_cases y1 : y = 1
        · subst y1
          have hT : L.length ≤ 1048576 := by omega
          have O5 : ownsR (w4.drew.alloc (Obj.cells #[.string nm, .string tx, .int .i64 kp] 36)) (w.heap.size + 1 + 1) 36 (.slice (some ⟨b, 0, none⟩) L.length vc) L := R5.own.alloc _
          go_wp2_with fail
          refine wp_puts' (α := Lay) (fun x => [(62, (.pointer (some ⟨w.heap.size + 1, 0, none⟩))), (63, (.slice (some ⟨b, 0, none⟩) L.length vc)), (64, (.pointer (some ⟨w.heap.size + 1, 0, none⟩))), (65, (.slice (some ⟨b, 0, none⟩) L.length vc)), (66, (.int .i64 (i : Int))), (67, (.pointer (some ⟨b, i * 3, none⟩))), (68, (.agg #[.string nm, .string tx, .int .i64 kp])), (69, (.slice (some ⟨w4.heap.size, 0, none⟩) 1 1)), (70, (.slice x.a x.n x.d)), (71, (.pointer (some ⟨w.heap.size + 1, 0, none⟩)))]) (fun x w' => Dd w w' g (.slice x.a x.n x.d) (L ++ [⟨nm, tx, kp⟩])) ?_ ?_
          · go_region_law ((refine step_append_rec (α := Fl) rfl (.tmp 63) (.tmp 69) 24 rfl (w.heap.size + 1 + 1) 36 _ 40 under24 info36 rfl (.slice (some ⟨b, 0, none⟩) L.length vc) L rfl w4.heap.size 1 ⟨nm, tx, kp⟩ rfl O5 (new_cells w4.drew nm _ _) hT (by decide) (by simp; omega) ?_; intro v3 w3 ho3 hg3; obtain ⟨a3, n3, d3, rfl⟩ := slice_three ho3; have c6 := grown_cell O5 hg3 (p := ⟨w.heap.size + 1, 0, none⟩) (by simp) (cell_up (ba (Below.refl _ _) _) c5); have f6 := grown_frozen O5 hg3 (p := ⟨w.heap.size + 1, 0, none⟩) (by simp) (by simp; omega) (frozen_on2 (ba (Below.refl _ _) _) c5 R5.boxf)))
            all_goals
              dsimp only [nrm]
              refine ⟨⟨nm, kp, a3, n3, d3⟩, ?_, (R5.all (ba (Below.refl _ _) _)).grow hg3 ho3⟩
              kernel_rfl
          clear c5 c4 e50 e51 e52 R5 O5
          rintro ⟨_, _, a3, n3, d3⟩ w8 R8
          simp only [putAll]
          dsimp only at R8
          have SM : SmD (L ++ [⟨nm, tx, kp⟩]) := HS.out.more (by omega) hz.1 hz.2
          have c9 := R8.box
          have r9 := R8.res
          have f9 := R8.resf
          go_wp2_with fail
          refine bodyPost_ret (ret_disk rfl rfl (World.cell?_setCell_same' _ _ _ (by simp [r9]))) rfl ?_
          exact ⟨_, _, rfl, R8.exit.1, SM, R8.exit.2⟩
        have b1 : (y == 1) = false := beq_false_of_ne y1
        by_cases y2 : y = 2
        · subst y2
          go_wp2_with fail
          refine wp_puts' (α := ByteArray) (fun x => [(74, (.pointer (some ⟨w.heap.size + 1, 0, none⟩))), (75, (.slice (some ⟨b, 0, none⟩) L.length vc)), (76, (.int .i64 (i : Int))), (77, (.pointer (some ⟨g, 0, none⟩))), (78, (.slice (some ⟨w4.heap.size, 0, none⟩) 3 3)), (79, (.string x)), (80, (.pointer (some ⟨b, i * 3, none⟩))), (81, (.pointer (some ⟨b, i * 3, none⟩)))]) (fun x w' => x.size ≤ 9 ∧ Dd w w' g (.slice (some ⟨b, 0, none⟩) L.length vc) (L.set i ⟨x, tx, kp⟩)) ?_ ?_
          · go_region_with (go_at_call 76; refine (pickText_from (fun t => t.size ≤ 9) g [⟨#[]⟩, ⟨#[49, 50, 51, 52, 53, 54, 55, 56]⟩, ⟨#[49, 50, 51, 52, 53, 54, 55, 56, 57]⟩] w4.drew w4.drew R5.drw (Save.refl _ _) (by simp) (by simp) (by decide) _ (by rfl) _ (by rfl)).mono ?_; rintro e w6 ⟨t, rfl, ht, hd6, hs6⟩; have R6 := R5.save hs6 hd6; have c6 := R6.box; obtain ⟨hbl6, _, _, hat6⟩ := R6.own.at hf; have e60 : w6.cell? ⟨b, i * 3, none⟩ = some (.string nm) := (hat6 0 (by decide)).1; have f60 : w6.frozen? ⟨b, i * 3, none⟩ = false := (hat6 0 (by decide)).2; clear hat6)
            all_goals
              dsimp only [nrm]
              refine ⟨t, ?_, ht, R6.cell ⟨t, tx, kp⟩ hf (j := 0) (by decide) rfl⟩
              kernel_rfl
          clear c5 c4 e50 e51 e52 R5
          rintro t w8 ⟨ht, R8⟩
          simp only [putAll]
          have SM : SmD (L.set i ⟨t, tx, kp⟩) := HS.out.set (by show t.size ≤ 1048576; omega) hz.2
          have c9 := R8.box
          have r9 := R8.res
          have f9 := R8.resf
          go_wp2_with fail
          refine bodyPost_ret (ret_disk rfl rfl (World.cell?_setCell_same' _ _ _ (by simp [r9]))) rfl ?_
          exact ⟨_, _, rfl, R8.exit.1, SM, R8.exit.2⟩
        have b2 : (y == 2) = false := beq_false_of_ne y2
        by_cases y3 : y = 3
        · subst y3
          clear c5 e50 e51 e52 R5
          have f4 := R4.boxf
          have M0 : Dd w ((w4.alloc (.cells #[] 36)).setCell ⟨w.heap.size + 1, 0, none⟩ (.slice (some ⟨w4.heap.size, 0, none⟩) 0 0)) g (.slice (some ⟨w4.heap.size, 0, none⟩) 0 0) [] := by
            have := World.ownsRow_made (base := w4.heap.size) (e := 36) (size := 3) w4 #[] 0 (Nat.le_refl _) (by decide) (by rfl)
            have t2 : (w4.alloc (.cells #[] 36)).ownsRow w4.heap.size 36 3 (.slice (some ⟨w4.heap.size, 0, none⟩) 0 0) 0 [] := by simpa using this
            exact R4.put (L' := []) t2 (ba (Below.refl _ _) _)
          go_wp2_with fail
          have hsw : (w4.alloc (.cells #[] 36)).setCell ⟨w.heap.size + 1, 0, none⟩ (.slice (some ⟨w4.heap.size, 0, none⟩) 0 0) = (w4.setCell ⟨w.heap.size + 1, 0, none⟩ (.slice (some ⟨w4.heap.size, 0, none⟩) 0 0)).alloc (.cells #[] 36) := by simp [go_sem, hbx]
          rw [hsw] at M0
          obtain ⟨V, hV⟩ : ∃ V, (w4.setCell ⟨w.heap.size + 1, 0, none⟩ (.slice (some ⟨w4.heap.size, 0, none⟩) 0 0)).alloc (.cells #[] 36) = V := ⟨_, rfl⟩
          clear hsw
          rw [hV] at M0 ⊢
          clear hV R4 c4 f4 HS hf hz hbx hbl2 hbl hbB
          have H1 : Hid (Dd w V g (.slice (some ⟨w4.heap.size, 0, none⟩) 0 0) []) := M0
          clear M0
          go_loopw [7] (fun j wr => ∃ (k : Nat) (v : Value) (L : List Fl), k ≤ 31 ∧ j = .int .i64 k ∧ L.length ≤ k ∧ Dd w wr g v L ∧ Hid (SmD L)) (fun j _ => 31 - (intOf j).toNat)
          case atStart => exact ⟨0, _, [], Nat.zero_le _, rfl, Nat.le_refl _, H1.out, ⟨by simp, fun f hf => by simp at hf⟩⟩
          case round =>
            clear H1
            obtain ⟨k2, v2, L2, hk2, rfl, hl2, hM, HS2⟩ := hrel
            obtain ⟨va2, vc2, rfl⟩ := hM.own.slice
            go_wp2_with fail
            refine (below_any g 2 _ hM.drw (by decide) (by decide)).mono ?_
            rintro e w5 ⟨x5, rfl, hx50, hx51, hd5, hs5⟩
            have M5 := hM.save hs5 hd5
            clear hM hs5 hd5
            by_cases hkx5 : (k2 : Int) < 30 + x5
            · have M6 : Dd w w5.drew g (.slice va2 L2.length vc2) L2 := M5.save (W' := w5.drew) (Save.refl g w5).drew M5.drw
              have c6 := M6.box
              have c5 := M5.box
              have hwk : IntKind.i64.wrap (100 + (k2 : Int)) = 100 + (k2 : Int) := by go_arith
              have hadd := run_add_one 102 (decI (100 + (k2 : Int)).toNat) (by have := decI_len 19 (100 + (k2 : Int)).toNat (by omega); omega)
              have hadd2 : ∀ wx, (Op.stringOp .add { data := #[102] } (bstr (decI (100 + (k2 : Int)).toNat))).run Try.prog wx = .ok (.string (bstr (102 :: decI (100 + (k2 : Int)).toNat))) wx := hadd
              clear hadd
              go_wp2_with fail
              refine wp_puts' (α := Nat × Lay) (fun x => [(93, (.pointer (some ⟨w.heap.size + 1, 0, none⟩))), (94, (.slice va2 L2.length vc2)), (95, (.int .i64 (k2 : Int))), (96, (.int .i64 (100 + (k2 : Int)))), (97, (.string (bstr (decI (100 + (k2 : Int)).toNat)))), (98, (.string (bstr (102 :: decI (100 + (k2 : Int)).toNat)))), (99, (.agg #[(.string (bstr (102 :: decI (100 + (k2 : Int)).toNat))), .string ByteArray.empty, .int .i64 0])), (100, (.slice (some ⟨x.1, 0, none⟩) 1 1)), (101, (.slice x.2.a x.2.n x.2.d)), (102, (.pointer (some ⟨w.heap.size + 1, 0, none⟩)))]) (fun x w' => Dd w w' g (.slice x.2.a x.2.n x.2.d) (L2 ++ [⟨bstr (102 :: decI (100 + (k2 : Int)).toNat), ByteArray.empty, 0⟩])) ?_ ?_
              · go_region_law (first | (refine step_append_rec (α := Fl) rfl (.tmp 94) (.tmp 100) 24 rfl (w.heap.size + 1 + 1) 36 _ 40 under24 info36 rfl (.slice va2 L2.length vc2) L2 rfl w7.heap.size 1 ⟨bstr (102 :: decI (100 + (k2 : Int)).toNat), ByteArray.empty, 0⟩ rfl O7 (new_cells w7 _ _ _) (by omega) (by decide) (by simp; omega) ?_; intro v3 w3 ho3 hg3; obtain ⟨a3, n3, d3, rfl⟩ := slice_three ho3; have c8 := grown_cell O7 hg3 (p := ⟨w.heap.size + 1, 0, none⟩) (by simp) (cell_up (ba (Below.refl _ _) _) c7); have f8 := grown_frozen O7 hg3 (p := ⟨w.heap.size + 1, 0, none⟩) (by simp) (by simp; omega) (frozen_on2 (ba (Below.refl _ _) _) c7 M7.boxf)) | (go_simp; go_wp2_with (go_at_call 80; refine (decimal_int _ _ (by omega) (by omega)).mono ?_; rintro e w7 ⟨rfl, hb7⟩; have M7 := M6.all hb7; have c7 := M7.box; have hlt7 := M7.lt; have O7 : ownsR (w7.alloc (Obj.cells #[.string (bstr (102 :: decI (100 + (k2 : Int)).toNat)), .string ByteArray.empty, .int .i64 0] 36)) (w.heap.size + 1 + 1) 36 (.slice va2 L2.length vc2) L2 := M7.own.alloc _)))
                all_goals
                  dsimp only [nrm]
                  refine ⟨w7.heap.size, ⟨ByteArray.empty, 0, a3, n3, d3⟩, ?_, (M7.all (ba (Below.refl _ _) _)).grow hg3 ho3⟩
                  kernel_rfl
              clear c6 c5 hwk hadd2 M6
              rintro ⟨_, _, _, a3, n3, d3⟩ w8 R8
              simp only [putAll]
              dsimp only at R8
              have SM : Hid (SmD (L2 ++ [⟨bstr (102 :: decI (100 + (k2 : Int)).toNat), ByteArray.empty, 0⟩])) := HS2.out.more (by omega) (by show (bstr _).size ≤ _; rw [bstr_size']; have := decI_len 19 (100 + (k2 : Int)).toNat (by omega); simp; omega) (by show ByteArray.empty.size ≤ 1048576; decide)
              go_wp2_with fail
              go_roundw
              case rel => exact ⟨k2 + 1, _, _, by omega, by go_num, by simp; omega, R8, SM⟩
              case measure => simp [intOf]; omega
            · have R8 := M5
              have SM : SmD L2 := HS2.out
              have c9 := R8.box
              have r9 := R8.res
              have f9 := R8.resf
              go_wp2_with fail
              refine bodyPost_ret (ret_disk rfl rfl (World.cell?_setCell_same' _ _ _ (by simp [r9]))) rfl ?_
              exact ⟨_, _, rfl, R8.exit.1, SM, R8.exit.2⟩
        have b3 : (y == 3) = false := beq_false_of_ne y3
        by_cases y4 : y = 4
        · subst y4
          go_wp2_with fail
          refine wp_puts' (α := Int × ByteArray) (fun x => [(105, (.pointer (some ⟨w.heap.size + 1, 0, none⟩))), (106, (.slice (some ⟨b, 0, none⟩) L.length vc)), (107, (.int .i64 (i : Int))), (108, (.pointer (some ⟨g, 0, none⟩))), (109, (.int .i64 x.1)), (110, (.int .i64 (19999 + x.1))), (111, (.string x.2)), (112, (.pointer (some ⟨b, i * 3, none⟩))), (113, (.pointer (some ⟨b, i * 3 + 1, none⟩)))]) (fun x w' => x.2.size ≤ 1000000 ∧ Dd w w' g (.slice (some ⟨b, 0, none⟩) L.length vc) (L.set i ⟨nm, x.2, kp⟩)) ?_ ?_
          · go_region_with (first | (go_at_call 48; refine (below_any g 3 _ R5.drw (by decide) (by decide)).mono ?_; rintro e w6 ⟨q, rfl, hq0, hq1, hd6, hs6⟩; have R6 := R5.save hs6 hd6; have c6 := R6.box; have hwq : IntKind.i64.wrap (19999 + q) = 19999 + q := (by go_arith)) | (go_at_call 81; refine (long_int _ _ (by omega) (by omega)).mono ?_; rintro e w7 ⟨t, rfl, ht, hb7⟩; have R7 := R6.all hb7; have c7 := R7.box; obtain ⟨hbl7, _, _, hat7⟩ := R7.own.at hf; have e71 : w7.cell? ⟨b, i * 3 + 1, none⟩ = some (.string tx) := (hat7 1 (by decide)).1; have f71 : w7.frozen? ⟨b, i * 3 + 1, none⟩ = false := (hat7 1 (by decide)).2; clear hat7))
            all_goals
              dsimp only [nrm]
              refine ⟨⟨q, t⟩, ?_, ht, R7.cell ⟨nm, t, kp⟩ hf (j := 1) (by decide) rfl⟩
              kernel_rfl
          clear c5 c4 e50 e51 e52 R5
          rintro ⟨q, t⟩ w8 ⟨ht, R8⟩
          simp only [putAll]
          dsimp only at ht R8
          have SM : SmD (L.set i ⟨nm, t, kp⟩) := HS.out.set hz.1 (by show t.size ≤ 1048576; omega)
          have c9 := R8.box
          have r9 := R8.res
          have f9 := R8.resf
          go_wp2_with fail
          refine bodyPost_ret (ret_disk rfl rfl (World.cell?_setCell_same' _ _ _ (by simp [r9]))) rfl ?_
          exact ⟨_, _, rfl, R8.exit.1, SM, R8.exit.2⟩
        have b4 : (y == 4) = false := beq_false_of_ne y4
        clear c5 e50 e51 e52 R5
        have R8 := R4
        have SM : SmD L := HS.out
        have c9 := R8.box
        have r9 := R8.res
        have f9 := R8.resf
        go_wp2_with fail
        refine bodyPost_ret (ret_disk rfl rfl (World.cell?_setCell_same' _ _ _ (by simp [r9]))) rfl ?_
        exact ⟨_, _, rfl, R8.exit.1, SM, R8.exit.2⟩
end Go.Proofs.Ytekflgecfcjjiaa
